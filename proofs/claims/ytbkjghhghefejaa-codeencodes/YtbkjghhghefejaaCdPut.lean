/-
  Layer 7: the reference's bytes, walked; bytes put behind others, and where they lie.
-/
import Derived.Test.YtbkjghhghefejaaCdApp
import Derived.Test.YtbkjghhghefejaaCodeBegins
namespace Go.Proofs.Ytbkjghhghefejaa
open Go.RowKit Crc

/-- Nothing was turned but the row's own block; where it lies now is there or new. -/
structure KO (v v' : Value) (w w' : World) : Prop where
  os : w'.os = w.os
  tape : w'.tape = w.tape
  output : w'.output = w.output
  size : w.heap.size ≤ w'.heap.size
  block : ∀ k, k < w.heap.size → v.ownBlock ≠ some k → w'.heap[k]? = w.heap[k]?
  own : ∀ k, v'.ownBlock = some k → v.ownBlock = some k ∨ w.heap.size ≤ k

theorem KO.refl (v : Value) (w : World) : KO v v w w := ⟨rfl, rfl, rfl, Nat.le_refl _, fun _ _ _ => rfl, fun _ h => Or.inl h⟩
theorem KO.trans {v v' v'' : Value} {w w' w'' : World} (h : KO v v' w w') (k : KO v' v'' w' w'') : KO v v'' w w'' := by
  refine ⟨k.os.trans h.os, k.tape.trans h.tape, k.output.trans h.output, Nat.le_trans h.size k.size, fun i hi hv => ?_, fun i hi => ?_⟩
  · rw [k.block i (Nat.lt_of_lt_of_le hi h.size) (fun e => ?_), h.block i hi hv]
    rcases h.own i e with e1 | e1
    · exact hv e1
    · omega
  · rcases k.own i hi with e | e
    · exact h.own i e
    · exact Or.inr (Nat.le_trans h.size e)
theorem KO.below {B : Nat} {v v' : Value} {l : List Nat} {w w' : World} (h : KO v v' w w') (hw : OW w B v l) (hB : B ≤ w.heap.size) : Below B w w' :=
  ⟨h.os, h.tape, h.output, h.size, fun k hk => h.block k (by omega) (fun e => by have := (hw.2.lt k e).1; omega)⟩
theorem KO.of {v : Value} {w w' : World} (h : Below w.heap.size w w') : KO v v w w' := ⟨h.os, h.tape, h.output, h.size, fun k hk _ => h.block k hk, fun _ h => Or.inl h⟩
theorem KO.grown {v v' : Value} {w w' : World} (hg : w.grownBy w' v.ownBlock) (hat : ∀ k, v'.ownBlock = some k → v.ownBlock = some k ∨ w.heap.size ≤ k) : KO v v' w w' :=
  ⟨hg.os, hg.tape, hg.output, hg.size, fun k hk hv => hg.block k hk (fun e => hv e.symm), hat⟩
theorem KO.cell {v v' : Value} {w w' : World} (h : KO v v' w w') {k : Nat} (hk : k < w.heap.size) (hv : v.ownBlock ≠ some k) (j : Nat) : w'.cell? ⟨k, j, none⟩ = w.cell? ⟨k, j, none⟩ :=
  World.cell?_of_block (w := w) (h.block k hk hv)
theorem Bxc.ko {v v' : Value} {w w' : World} {q : Nat} {k : Int} {n : Nat} {s : ByteArray} {u : Value} (h : Bxc w q k n s u) (hk : KO v v' w w') (hv : v.ownBlock ≠ some q) : Bxc w' q k n s u :=
  ⟨Nat.lt_of_lt_of_le h.lt hk.size, (hk.cell h.lt hv 0).trans h.c0, (hk.cell h.lt hv 1).trans h.c1, (hk.cell h.lt hv 2).trans h.c2, (hk.cell h.lt hv 3).trans h.c3⟩
theorem KO.free {v v' : Value} {w w' : World} {q : Nat} (h : KO v v' w w') (hq : q < w.heap.size) (hv : v.ownBlock ≠ some q) : v'.ownBlock ≠ some q := fun e => by
  rcases h.own q e with e1 | e1
  · exact hv e1
  · omega

/-- As the law for append, and where the new row lies. -/
theorem wpList_append_brl {w : World} {ops : Array Oper} {rest : List Oper} {o : Oper} {a : Act} {Q : Exit → Act → World → Prop} (hgd : o.guard = none) (s x : Operand)
    (ho : o.op = .call { callee := .builtin .append, args := #[s, x], argTypes := #[28, 28] }) (B : Nat) (v y : Value) (l m : List Nat) (hs : a.eval s = v) (hx : a.eval x = y)
    (hO : OW w B v l) (hR : BR w y m) (hm : 0 < m.length) (hlen : l.length + m.length ≤ 140737488355328) (hB : B ≤ w.heap.size)
    (h : ∀ v' w', OW w' B v' (l ++ m) → KO v v' w w' → wpList Try.prog ops Q rest (a.put o.dst v') w') : wpList Try.prog ops Q (o :: rest) a w := by
  obtain ⟨i0, hi0, hz0, hz1, hz2⟩ := info_parts info8
  obtain ⟨s1, ad, cap, rfl, h3, h4, h5⟩ := hR
  rcases h5 with ⟨rfl, rfl⟩ | ⟨ad, rfl, hc⟩
  · omega
  · refine wpList_append_lies w hgd s x 28 ho B 5 i0 (.int .u8 0) 1 1 Try.underlying28 hi0 hz0 hz1 hz2 rfl (by decide) v l.length (c8 l) hs hO.2 ad m.length cap (c8 m) hx (by rw [c8_length, Nat.mul_one]) ?_ (c8_one m) hm (by unfold maxLen; omega) (by omega) hB w.heap.size rfl ?_
    · intro j u hu
      obtain ⟨e1, rfl⟩ := c8_at hu
      exact hc j e1
    · intro g cap' w' hown hgrow hat _
      refine h _ w' ⟨hO.1.append s1, ?_⟩ (KO.grown hgrow (fun k hk => ?_))
      · rw [List.length_append, c8_append]; exact hown
      · simp [Value.ownBlock] at hk
        subst hk
        rcases hat with e | e
        · exact Or.inl e
        · exact Or.inr (by omega)

theorem wpList_append_txt {w : World} {ops : Array Oper} {rest : List Oper} {o : Oper} {a : Act} {Q : Exit → Act → World → Prop} (hgd : o.guard = none) (sl x : Operand)
    (ho : o.op = .call { callee := .builtin .append, args := #[sl, x], argTypes := #[28, 9] }) (B : Nat) (v : Value) (l : List Nat) (s : ByteArray) (hs : a.eval sl = v) (hx : a.eval x = .string s)
    (hO : OW w B v l) (hlen : l.length + s.size ≤ 140737488355328) (hB : B ≤ w.heap.size)
    (h : ∀ v' w', OW w' B v' (l ++ tx s) → KO v v' w w' → wpList Try.prog ops Q rest (a.put o.dst v') w') : wpList Try.prog ops Q (o :: rest) a w := by
  obtain ⟨i0, hi0, hz0, hz1, hz2⟩ := info_parts info8
  refine wpList_plain hgd fun K hK => ?_
  obtain ⟨v', w', hr, h2, h3, h4⟩ := run_append_text (P := Try.prog) w B 28 9 o.type 5 i0 Try.underlying28 Try.underlying9 hi0 hz0 hz1 hz2 v l.length (c8 l) hO.2 s (by unfold maxLen; omega) hlen hB
  unfold Oper.wp
  simp [execOp, ho, resolve, invoke, builtin, hs, hx, hr, Result.andThen]
  refine hK _ _ (h v' w' ⟨hO.1.append (tx_sm s), ?_⟩ (KO.grown h3 (fun k hk => ?_)))
  · rw [List.length_append, c8_append, tx_length, ← tx_cells]; exact h2
  · rcases h4 k hk with e | e
    · exact Or.inl e
    · exact Or.inr (by omega)

theorem and255 (q : Nat) (hq : q < 18446744073709551616) : bits .and .u64 (q : Int) 255 = ((q % 256 : Nat) : Int) := by
  rw [show (255 : Int) = ((255 : Nat) : Int) from rfl, bits_and_u64_nat q 255 hq (by decide), show (255 : Nat) = 2 ^ 8 - 1 from rfl, Nat.and_two_pow_sub_one_eq_mod]

set_option maxHeartbeats 1000000 in
theorem rbytes_any (n s : Nat) (w : World) (hn : n < 18446744073709551616) (hs : s ≤ 8) :
    Calls Try.prog 35 #[.int .u64 n, .int .i64 s] w fun e w' => ∃ v', e = .returned v' ∧ OW w' w.heap.size v' (be n s) ∧ Below w.heap.size w w' := by
  have oe := OW_empty w
  have HS : Hid (OW (w.alloc (.cells #[] 5)) w.heap.size (.slice (some ⟨w.heap.size, 0, none⟩) 0 0) []) := oe
  have HB0 : Hid (Below w.heap.size w (w.alloc (.cells #[] 5))) := (Below.refl _ _).alloc (Nat.le_refl _) _
  clear oe
  go_enter Try.func35, Try.ntmps35
  go_wp2_with fail
  go_loopw [5, 6] (fun t5 t6 wr => ∃ (j : Nat), j ≤ s ∧ t6 = .int .i64 ((j : Int) - 1) ∧ Hid (∃ m, OW wr w.heap.size t5 m ∧ m.length + j = s ∧ m ++ be n j = be n s ∧ Below w.heap.size w wr)) (fun _ t6 _ => (intOf t6 + 1).toNat)
  case atStart => exact ⟨s, Nat.le_refl _, by go_num, ⟨[], HS.out, by simp, rfl, HB0.out⟩⟩
  case round =>
    obtain ⟨j, hj, rfl, HI⟩ := hrel
    cases j with
    | zero =>
      have HQ : Hid (OW wr w.heap.size u5 (be n s) ∧ Below w.heap.size w wr) := by
        obtain ⟨m, h1, h2, h3, h4⟩ := HI.out
        have e : m = be n s := by rw [← h3]; unfold be; rw [List.append_nil]
        exact ⟨e ▸ h1, h4⟩
      obtain ⟨a5, cap5, e5⟩ := ownsRow_slice HQ.out.1.2
      subst e5
      go_wp2
      go_ret
      exact ⟨_, rfl, HQ.out⟩
    | succ j =>
      obtain ⟨m, h1, h2, h3, h4⟩ := HI.out
      obtain ⟨k, hk⟩ : ∃ k, k = 8 * j := ⟨_, rfl⟩
      have e8 : (8 : Int) * (j : Int) = (k : Int) := by omega
      have hk2 : k < 64 := by omega
      obtain ⟨q, hq⟩ : ∃ q, q = n / 2 ^ k := ⟨_, rfl⟩
      have hqi : (n : Int) / 2 ^ k = (q : Int) := by rw [hq]; simp
      have hq2 : q < 18446744073709551616 := by rw [hq]; exact Nat.lt_of_le_of_lt (Nat.div_le_self _ _) hn
      have ha := and255 q hq2
      obtain ⟨r, hr⟩ : ∃ r, r = q % 256 := ⟨_, rfl⟩
      have hr8 : r < 256 := by omega
      rw [← hr] at ha
      have hkm : (k : Int) % 18446744073709551616 = (k : Int) := by omega
      have HNX : Hid (∀ v' w', OW w' w.heap.size v' (m ++ [r]) → Below w.heap.size w w' → ∃ m, OW w' w.heap.size v' m ∧ m.length + j = s ∧ m ++ be n j = be n s ∧ Below w.heap.size w w') := by
        intro v' w' k1 k2
        refine ⟨m ++ [r], k1, by rw [List.length_append]; simp; omega, ?_, k2⟩
        rw [List.append_assoc, ← h3, hr, hq, hk]; rfl
      have o1 := h1.alloc (.cells #[.int .u8 (r : Int)] 5)
      have b1 := br_one wr r hr8
      have hsz := h4.size
      have HB4 : Hid (Below w.heap.size w wr) := h4
      have hml : m.length ≤ 8 := by omega
      rw [show ((j + 1 : Nat) : Int) - 1 = (j : Int) by omega] at *
      obtain ⟨a5, cap5, e5⟩ := ownsRow_slice h1.2
      subst e5
      clear hk hq hr h1 h3 h4 HI
      go_wp2_with (at_builtin; refine wpList_append_brl rfl _ _ rfl w.heap.size _ _ m [r] rfl rfl o1 b1 (by simp) (by simp only [List.length_cons, List.length_nil]; omega) (by simp; omega) ?_)
      intro v6 w6 o6 g6
      have HQ : Hid _ := HNX.out v6 w6 o6 ((HB4.out.alloc hsz _).trans (g6.below o1 (by simp; omega)))
      clear o6 g6 o1 b1
      go_wp2
      go_roundw
      case rel => exact ⟨j, by omega, by go_num, HQ⟩
      case measure => simp [intOf]

end Go.Proofs.Ytbkjghhghefejaa
