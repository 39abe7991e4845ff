/-
  Layer 7: the reference's put and Encode, walked.
-/
import Derived.Test.YtjngknnkffbnmaaDoorCdAppq
import Derived.Test.YtjngknnkffbnmaaDoorCodeBeginsq
namespace Go.Proofs.YtjngknnkffbnmaaDoor
set_option maxRecDepth 100000
open Go.RowKit Crc

/-- Nothing was turned but the row's own block; where it lies now is there or new. -/
structure KO (v v' : Value) (w w' : World) : Prop where
  os : w'.os = w.os
  tape : w'.tape = w.tape
  output : w'.output = w.output
  size : w.heap.size ≤ w'.heap.size
  block : ∀ k, k < w.heap.size → v.ownBlock ≠ some k → w'.heap[k]? = w.heap[k]?
  own : ∀ k, v'.ownBlock = some k → v.ownBlock = some k ∨ w.heap.size ≤ k

theorem KO.refl (v : Value) (w : World) : KO v v w w := ⟨rfl, rfl, rfl, Nat.le_refl _, fun _ _ _ => rfl, fun _ h => Or.inl h⟩
theorem KO.trans {v v' v'' : Value} {w w' w'' : World} (h : KO v v' w w') (k : KO v' v'' w' w'') : KO v v'' w w'' := by
  refine ⟨k.os.trans h.os, k.tape.trans h.tape, k.output.trans h.output, Nat.le_trans h.size k.size, fun i hi hv => ?_, fun i hi => ?_⟩
  · rw [k.block i (Nat.lt_of_lt_of_le hi h.size) (fun e => ?_), h.block i hi hv]
    rcases h.own i e with e1 | e1
    · exact hv e1
    · omega
  · rcases k.own i hi with e | e
    · exact h.own i e
    · exact Or.inr (Nat.le_trans h.size e)
theorem KO.below {B : Nat} {v v' : Value} {l : List Nat} {w w' : World} (h : KO v v' w w') (hw : OW w B v l) (hB : B ≤ w.heap.size) : Below B w w' :=
  ⟨h.os, h.tape, h.output, h.size, fun k hk => h.block k (by omega) (fun e => by have := (hw.2.lt k e).1; omega)⟩
theorem KO.of {v : Value} {w w' : World} (h : Below w.heap.size w w') : KO v v w w' := ⟨h.os, h.tape, h.output, h.size, fun k hk _ => h.block k hk, fun _ h => Or.inl h⟩
theorem KO.grown {v v' : Value} {w w' : World} (hg : w.grownBy w' v.ownBlock) (hat : ∀ k, v'.ownBlock = some k → v.ownBlock = some k ∨ w.heap.size ≤ k) : KO v v' w w' :=
  ⟨hg.os, hg.tape, hg.output, hg.size, fun k hk hv => hg.block k hk (fun e => hv e.symm), hat⟩
theorem KO.cell {v v' : Value} {w w' : World} (h : KO v v' w w') {k : Nat} (hk : k < w.heap.size) (hv : v.ownBlock ≠ some k) (j : Nat) : w'.cell? ⟨k, j, none⟩ = w.cell? ⟨k, j, none⟩ :=
  World.cell?_of_block (w := w) (h.block k hk hv)
theorem Bxc.ko {v v' : Value} {w w' : World} {q : Nat} {k : Int} {n : Nat} {s : ByteArray} {u : Value} (h : Bxc w q k n s u) (hk : KO v v' w w') (hv : v.ownBlock ≠ some q) : Bxc w' q k n s u :=
  ⟨Nat.lt_of_lt_of_le h.lt hk.size, (hk.cell h.lt hv 0).trans h.c0, (hk.cell h.lt hv 1).trans h.c1, (hk.cell h.lt hv 2).trans h.c2, (hk.cell h.lt hv 3).trans h.c3⟩
theorem KO.free {v v' : Value} {w w' : World} {q : Nat} (h : KO v v' w w') (hq : q < w.heap.size) (hv : v.ownBlock ≠ some q) : v'.ownBlock ≠ some q := fun e => by
  rcases h.own q e with e1 | e1
  · exact hv e1
  · omega

/-- As the law for append, and where the new row lies. -/
theorem wpList_append_brl {w : World} {ops : Array Oper} {rest : List Oper} {o : Oper} {a : Act} {Q : Exit → Act → World → Prop} (hgd : o.guard = none) (s x : Operand)
    (ho : o.op = .call { callee := .builtin .append, args := #[s, x], argTypes := #[31, 31] }) (B : Nat) (v y : Value) (l m : List Nat) (hs : a.eval s = v) (hx : a.eval x = y)
    (hO : OW w B v l) (hR : BR w y m) (hm : 0 < m.length) (hlen : l.length + m.length ≤ 140737488355328) (hB : B ≤ w.heap.size)
    (h : ∀ v' w', OW w' B v' (l ++ m) → KO v v' w w' → wpList Tryd.prog ops Q rest (a.put o.dst v') w') : wpList Tryd.prog ops Q (o :: rest) a w := by
  obtain ⟨i0, hi0, hz0, hz1, hz2⟩ := info_parts info8
  obtain ⟨s1, ad, cap, rfl, h3, h4, h5⟩ := hR
  rcases h5 with ⟨rfl, rfl⟩ | ⟨ad, rfl, hc⟩
  · omega
  · refine wpList_append_lies w hgd s x 31 ho B 5 i0 (.int .u8 0) 1 1 Tryd.underlying31 hi0 hz0 hz1 hz2 rfl (by decide) v l.length (c8 l) hs hO.2 ad m.length cap (c8 m) hx (by rw [c8_length, Nat.mul_one]) ?_ (c8_one m) hm (by unfold maxLen; omega) (by omega) hB w.heap.size rfl ?_
    · intro j u hu
      obtain ⟨e1, rfl⟩ := c8_at hu
      exact hc j e1
    · intro g cap' w' hown hgrow hat _
      refine h _ w' ⟨hO.1.append s1, ?_⟩ (KO.grown hgrow (fun k hk => ?_))
      · rw [List.length_append, c8_append]; exact hown
      · simp [Value.ownBlock] at hk
        subst hk
        rcases hat with e | e
        · exact Or.inl e
        · exact Or.inr (by omega)

theorem wpList_append_txt {w : World} {ops : Array Oper} {rest : List Oper} {o : Oper} {a : Act} {Q : Exit → Act → World → Prop} (hgd : o.guard = none) (sl x : Operand)
    (ho : o.op = .call { callee := .builtin .append, args := #[sl, x], argTypes := #[31, 9] }) (B : Nat) (v : Value) (l : List Nat) (s : ByteArray) (hs : a.eval sl = v) (hx : a.eval x = .string s)
    (hO : OW w B v l) (hlen : l.length + s.size ≤ 140737488355328) (hB : B ≤ w.heap.size)
    (h : ∀ v' w', OW w' B v' (l ++ tx s) → KO v v' w w' → wpList Tryd.prog ops Q rest (a.put o.dst v') w') : wpList Tryd.prog ops Q (o :: rest) a w := by
  obtain ⟨i0, hi0, hz0, hz1, hz2⟩ := info_parts info8
  refine wpList_plain hgd fun K hK => ?_
  obtain ⟨v', w', hr, h2, h3, h4⟩ := run_append_text (P := Tryd.prog) w B 31 9 o.type 5 i0 Tryd.underlying31 Tryd.underlying9 hi0 hz0 hz1 hz2 v l.length (c8 l) hO.2 s (by unfold maxLen; omega) hlen hB
  unfold Oper.wp
  simp [execOp, ho, resolve, invoke, builtin, hs, hx, hr, Result.andThen]
  refine hK _ _ (h v' w' ⟨hO.1.append (tx_sm s), ?_⟩ (KO.grown h3 (fun k hk => ?_)))
  · rw [List.length_append, c8_append, tx_length, ← tx_cells]; exact h2
  · rcases h4 k hk with e | e
    · exact Or.inl e
    · exact Or.inr (by omega)

theorem and255 (q : Nat) (hq : q < 18446744073709551616) : bits .and .u64 (q : Int) 255 = ((q % 256 : Nat) : Int) := by
  rw [show (255 : Int) = ((255 : Nat) : Int) from rfl, bits_and_u64_nat q 255 hq (by decide), show (255 : Nat) = 2 ^ 8 - 1 from rfl, Nat.and_two_pow_sub_one_eq_mod]

set_option maxHeartbeats 1000000 in
theorem rbytes_any (n s : Nat) (w : World) (hn : n < 18446744073709551616) (hs : s ≤ 8) :
    Calls Tryd.prog 63 #[.int .u64 n, .int .i64 s] w fun e w' => ∃ v', e = .returned v' ∧ OW w' w.heap.size v' (be n s) ∧ Below w.heap.size w w' := by
  have oe := OW_empty w
  have HS : Hid (OW (w.alloc (.cells #[] 5)) w.heap.size (.slice (some ⟨w.heap.size, 0, none⟩) 0 0) []) := oe
  have HB0 : Hid (Below w.heap.size w (w.alloc (.cells #[] 5))) := (Below.refl _ _).alloc (Nat.le_refl _) _
  clear oe
  go_enter Tryd.func63, Tryd.ntmps63
  go_wp2_with fail
  go_loopw [5, 6] (fun t5 t6 wr => ∃ (j : Nat), j ≤ s ∧ t6 = .int .i64 ((j : Int) - 1) ∧ Hid (∃ m, OW wr w.heap.size t5 m ∧ m.length + j = s ∧ m ++ be n j = be n s ∧ Below w.heap.size w wr)) (fun _ t6 _ => (intOf t6 + 1).toNat)
  case atStart => exact ⟨s, Nat.le_refl _, by go_num, ⟨[], HS.out, by simp, rfl, HB0.out⟩⟩
  case round =>
    obtain ⟨j, hj, rfl, HI⟩ := hrel
    cases j with
    | zero =>
      have HQ : Hid (OW wr w.heap.size u5 (be n s) ∧ Below w.heap.size w wr) := by
        obtain ⟨m, h1, h2, h3, h4⟩ := HI.out
        have e : m = be n s := by rw [← h3]; unfold be; rw [List.append_nil]
        exact ⟨e ▸ h1, h4⟩
      obtain ⟨a5, cap5, e5⟩ := ownsRow_slice HQ.out.1.2
      subst e5
      go_wp2
      go_ret
      exact ⟨_, rfl, HQ.out⟩
    | succ j =>
      obtain ⟨m, h1, h2, h3, h4⟩ := HI.out
      obtain ⟨k, hk⟩ : ∃ k, k = 8 * j := ⟨_, rfl⟩
      have e8 : (8 : Int) * (j : Int) = (k : Int) := by omega
      have hk2 : k < 64 := by omega
      obtain ⟨q, hq⟩ : ∃ q, q = n / 2 ^ k := ⟨_, rfl⟩
      have hqi : (n : Int) / 2 ^ k = (q : Int) := by rw [hq]; simp
      have hq2 : q < 18446744073709551616 := by rw [hq]; exact Nat.lt_of_le_of_lt (Nat.div_le_self _ _) hn
      have ha := and255 q hq2
      obtain ⟨r, hr⟩ : ∃ r, r = q % 256 := ⟨_, rfl⟩
      have hr8 : r < 256 := by omega
      rw [← hr] at ha
      have hkm : (k : Int) % 18446744073709551616 = (k : Int) := by omega
      have HNX : Hid (∀ v' w', OW w' w.heap.size v' (m ++ [r]) → Below w.heap.size w w' → ∃ m, OW w' w.heap.size v' m ∧ m.length + j = s ∧ m ++ be n j = be n s ∧ Below w.heap.size w w') := by
        intro v' w' k1 k2
        refine ⟨m ++ [r], k1, by rw [List.length_append]; simp; omega, ?_, k2⟩
        rw [List.append_assoc, ← h3, hr, hq, hk]; rfl
      have o1 := h1.alloc (.cells #[.int .u8 (r : Int)] 5)
      have b1 := br_one wr r hr8
      have hsz := h4.size
      have HB4 : Hid (Below w.heap.size w wr) := h4
      have hml : m.length ≤ 8 := by omega
      rw [show ((j + 1 : Nat) : Int) - 1 = (j : Int) by omega] at *
      obtain ⟨a5, cap5, e5⟩ := ownsRow_slice h1.2
      subst e5
      clear hk hq hr h1 h3 h4 HI
      go_wp2_with (at_builtin; refine wpList_append_brl rfl _ _ rfl w.heap.size _ _ m [r] rfl rfl o1 b1 (by simp) (by simp only [List.length_cons, List.length_nil]; omega) (by simp; omega) ?_)
      intro v6 w6 o6 g6
      have HQ : Hid _ := HNX.out v6 w6 o6 ((HB4.out.alloc hsz _).trans (g6.below o1 (by simp; omega)))
      clear o6 g6 o1 b1
      go_wp2
      go_roundw
      case rel => exact ⟨j, by omega, by go_num, HQ⟩
      case measure => simp [intOf]

end Go.Proofs.YtjngknnkffbnmaaDoor
namespace Go.Proofs.YtjngknnkffbnmaaDoor
set_option maxRecDepth 100000
open Go.RowKit Crc

/-- What the reference's put tells. -/
def PutP (r : Nat ⊕ List Nat) (B : Nat) (v : Value) (w : World) (e : Ending) (w' : World) : Prop :=
  ∃ v' x, e = .returned (.tuple #[v', .int .i64 x]) ∧ Below B w w' ∧ match r with
    | .inl y => v' = .slice none 0 0 ∧ x = (y : Int)
    | .inr m => OW w' B v' m ∧ x = 0 ∧ KO v v' w w' ∧ m.length ≤ 1048576

theorem PutP.err {B : Nat} {v : Value} {w w' : World} {y : Nat} {r : Nat ⊕ List Nat} (hr : r = .inl y) (hb : Below B w w') : PutP r B v w (.returned (.tuple #[.slice none 0 0, .int .i64 y])) w' := by
  rw [hr]; exact ⟨_, _, rfl, hb, rfl, rfl⟩
theorem PutP.ok {B : Nat} {v v' : Value} {w w' : World} {m : List Nat} {r : Nat ⊕ List Nat} (hr : r = .inr m) (hb : Below B w w') (ho : OW w' B v' m) (hk : KO v v' w w') (hm : m.length ≤ 1048576) : PutP r B v w (.returned (.tuple #[v', .int .i64 0])) w' := by
  rw [hr]; exact ⟨_, _, rfl, hb, ho, rfl, hk, hm⟩
theorem KO.alloc {v v' : Value} {w w' : World} {o : Obj} (h : KO v v' (w.alloc o) w') : KO v v' w w' := by
  have hs : (w.alloc o).heap.size = w.heap.size + 1 := by simp
  have hz := h.size
  refine ⟨h.os, h.tape, h.output, by omega, fun k hk hv => ?_, fun k hk => ?_⟩
  · rw [h.block k (by omega) hv]
    exact Below.heap_alloc w o k hk
  · rcases h.own k hk with e | e
    · exact Or.inl e
    · exact Or.inr (by omega)

set_option maxHeartbeats 2000000 in
theorem rput_bad (B : Nat) (k : Int) (n : Nat) (s : ByteArray) (u v : Value) (d : Int) (w : World) (hB : B ≤ w.heap.size) (k0 : ¬ k = 0) (k1 : ¬ k = 1) (k2 : ¬ k = 2) :
    Calls Tryd.prog 52 #[v, .agg #[.int .i64 k, .int .u64 n, .string s, u], .int .i64 d] w (PutP (.inl 1) B v w) := by
  have HB0 : Hid (Below B w (w.alloc (.cells #[.int .i64 k, .int .u64 n, .string s, u] 26))) := (Below.refl _ _).alloc hB _
  by_cases c : k < 0
  · go_enter Tryd.func52, Tryd.ntmps52
    go_wp2
    go_ret2
    exact PutP.err rfl HB0.out
  · have c2 : k > 2 := by omega
    go_enter Tryd.func52, Tryd.ntmps52
    go_wp2
    go_ret2
    exact PutP.err rfl HB0.out

set_option maxHeartbeats 4000000 in
theorem rput_number (B : Nat) (n : Nat) (s : ByteArray) (u v : Value) (d : Int) (l : List Nat) (w : World) (h : OW w B v l) (hB : B ≤ w.heap.size) (hl : l.length ≤ 1048576) (hn : n < 18446744073709551616) (r : Nat ⊕ List Nat) (hr : r = if l.length + 9 ≤ 1048576 then .inr (l ++ ([0] ++ be n 8)) else .inl 2) :
    Calls Tryd.prog 52 #[v, .agg #[.int .i64 0, .int .u64 n, .string s, u], .int .i64 d] w (PutP r B v w) := by
  have HR : Hid (r = if l.length + 9 ≤ 1048576 then .inr (l ++ ([0] ++ be n 8)) else .inl 2) := hr
  clear hr
  obtain ⟨w1, hw1⟩ : ∃ w1, w1 = w.alloc (.cells #[.int .i64 0, .int .u64 n, .string s, u] 26) := ⟨_, rfl⟩
  have hs1 : w1.heap.size = w.heap.size + 1 := by rw [hw1]; simp
  have o1 : OW w1 B v l := by rw [hw1]; exact h.alloc _
  have x1 : Bxc w1 w.heap.size 0 n s u := by rw [hw1]; exact Bxc.new w 0 n s u _
  have hfree : v.ownBlock ≠ some w.heap.size := fun e => by have := (h.2.lt _ e).2; omega
  have HK1 : Hid (∀ v' w', KO v v' w1 w' → KO v v' w w') := fun v' w' k => by rw [hw1] at k; exact k.alloc
  obtain ⟨a, cap, rfl⟩ := ownsRow_slice h.2
  have HX1 : Hid (Bxc w1 w.heap.size 0 n s u) := x1
  obtain ⟨_, c0, c1, c2, c3⟩ := x1
  have HO : Hid (OW w B (.slice a l.length cap) l) := h
  have o2 := o1.alloc (.cells #[.int .u8 (0 : Nat)] 5)
  have b2 := br_one w1 0 (by decide)
  clear h o1
  go_enter Tryd.func52, Tryd.ntmps52
  go_wp2_with (at_builtin; rw [← hw1]; refine wpList_append_brl rfl _ _ rfl B _ _ l [0] rfl rfl o2 (by rw [← hs1]; exact b2) (by simp) (by simp only [List.length_cons, List.length_nil]; omega) (by simp; omega) ?_)
  intro v2 w2 p2 g2
  rw [← hw1] at g2
  have g2a : KO (.slice a l.length cap) v2 w1 w2 := KO.alloc g2
  have hs2 := g2a.size
  have x2 := HX1.out.ko g2a hfree
  have hf2 := g2a.free (q := w.heap.size) (by omega) hfree
  have HG2 : Hid (KO (.slice a l.length cap) v2 w1 w2) := g2a
  have HX2 : Hid (Bxc w2 w.heap.size 0 n s u) := x2
  have HP2 : Hid (OW w2 B v2 (l ++ [0])) := p2
  obtain ⟨a2, cap2, rfl⟩ := ownsRow_slice p2.2
  have hl2 : (l ++ [0]).length = l.length + 1 := by simp
  rw [hl2] at HP2 HG2 hf2 ⊢
  have hby := rbytes_any n 8 w2 hn (by decide)
  clear c0 c1 c2 c3 o2 b2 p2 g2 g2a hw1
  obtain ⟨_, c0, c1, c2, c3⟩ := x2
  go_wp2_with fail
  refine hby.mono ?_
  rintro e w3 ⟨v3, rfl, o3, hb3⟩
  have hs3 := hb3.size
  have p3 : OW w3 B (.slice a2 (l.length + 1) cap2) (l ++ [0]) := HP2.out.below hb3 (Nat.le_refl _)
  have HX3 : Hid (Bxc w3 w.heap.size 0 n s u) := HX2.out.below hb3
  have HG3 : Hid (KO (.slice a l.length cap) (.slice a2 (l.length + 1) cap2) w1 w3) := HG2.out.trans (KO.of hb3)
  have q3 := o3.br
  obtain ⟨a3, cap3, rfl⟩ := ownsRow_slice o3.2
  rw [be_length] at q3 ⊢
  clear hby o3 hb3 c0 c1 c2 c3
  go_wp2_with (at_builtin; refine wpList_append_brl rfl _ _ rfl B _ _ (l ++ [0]) (be n 8) rfl rfl p3 q3 (by rw [be_length]; decide) (by rw [hl2, be_length]; omega) (by omega) ?_)
  intro v4 w4 p4a g4
  have p4 : OW w4 B v4 (l ++ [0] ++ be n 8) := by rw [List.append_assoc]; exact p4a
  have hs4 := g4.size
  have x4 := HX3.out.ko g4 hf2
  have hf4 := g4.free (q := w.heap.size) (by omega) hf2
  have HG4 : Hid (KO (.slice a l.length cap) v4 w1 w4) := HG3.out.trans g4
  have HP4 : Hid (OW w4 B v4 (l ++ [0] ++ be n 8)) := p4
  have HX4 : Hid (Bxc w4 w.heap.size 0 n s u) := x4
  obtain ⟨a4, cap4, rfl⟩ := ownsRow_slice p4.2
  have hl4 : (l ++ [0] ++ be n 8).length = l.length + 1 + 8 := by simp [be_length]
  rw [hl4] at HP4 HG4 hf4 ⊢
  obtain ⟨_, c0, c1, c2, c3⟩ := x4
  clear p3 q3 p4 p4a g4
  by_cases cM : l.length + 9 ≤ 1048576
  · have cMi : ¬ (l.length : Int) + 1 + 8 > 1048576 := by omega
    have HQ : Hid (PutP r B (.slice a l.length cap) w (.returned (.tuple #[.slice a4 (l.length + 1 + 8) cap4, .int .i64 0])) w4) := by
      have hk := HK1.out _ _ HG4.out
      refine PutP.ok (m := l ++ ([0] ++ be n 8)) (by rw [HR.out, if_pos cM]) (hk.below HO.out hB) ?_ hk (by simp [be_length]; omega)
      rw [← List.append_assoc]; exact HP4.out
    go_wp2_with fail
    go_loopw [0, 8] (fun t0 t8 wr => t0 = .slice a4 (l.length + 1 + 8) cap4 ∧ t8 = .int .i64 0 ∧ wr = w4) (fun _ _ _ => 0)
    case atStart => exact ⟨rfl, rfl, rfl⟩
    case round =>
      obtain ⟨rfl, rfl, rfl⟩ := hrel
      go_wp2
      go_ret2
      exact HQ.out
  · have cMi : (l.length : Int) + 1 + 8 > 1048576 := by omega
    have HQ : Hid (PutP r B (.slice a l.length cap) w (.returned (.tuple #[.slice none 0 0, .int .i64 2])) w4) := by
      have hk := HK1.out _ _ HG4.out
      exact PutP.err (by rw [HR.out, if_neg cM]) (hk.below HO.out hB)
    go_wp2
    go_ret2
    exact HQ.out

set_option maxHeartbeats 4000000 in
theorem rput_text (B : Nat) (n : Nat) (s : ByteArray) (u v : Value) (d : Int) (l : List Nat) (w : World) (h : OW w B v l) (hB : B ≤ w.heap.size) (hl : l.length ≤ 1048576) (hs : s.size ≤ 140737488355328) (r : Nat ⊕ List Nat) (hr : r = if l.length + 5 + s.size ≤ 1048576 then .inr (l ++ ([1] ++ be s.size 4 ++ tx s)) else .inl 2) :
    Calls Tryd.prog 52 #[v, .agg #[.int .i64 1, .int .u64 n, .string s, u], .int .i64 d] w (PutP r B v w) := by
  have HR : Hid (r = if l.length + 5 + s.size ≤ 1048576 then .inr (l ++ ([1] ++ be s.size 4 ++ tx s)) else .inl 2) := hr
  clear hr
  have hsm : (s.size : Int) % 18446744073709551616 = (s.size : Int) := by omega
  obtain ⟨w1, hw1⟩ : ∃ w1, w1 = w.alloc (.cells #[.int .i64 1, .int .u64 n, .string s, u] 26) := ⟨_, rfl⟩
  have hs1 : w1.heap.size = w.heap.size + 1 := by rw [hw1]; simp
  have o1 : OW w1 B v l := by rw [hw1]; exact h.alloc _
  have x1 : Bxc w1 w.heap.size 1 n s u := by rw [hw1]; exact Bxc.new w 1 n s u _
  have hfree : v.ownBlock ≠ some w.heap.size := fun e => by have := (h.2.lt _ e).2; omega
  have HK1 : Hid (∀ v' w', KO v v' w1 w' → KO v v' w w') := fun v' w' k => by rw [hw1] at k; exact k.alloc
  obtain ⟨a, cap, rfl⟩ := ownsRow_slice h.2
  have HX1 : Hid (Bxc w1 w.heap.size 1 n s u) := x1
  obtain ⟨_, c0, c1, c2, c3⟩ := x1
  have HO : Hid (OW w B (.slice a l.length cap) l) := h
  have o2 := o1.alloc (.cells #[.int .u8 (1 : Nat)] 5)
  have b2 := br_one w1 1 (by decide)
  clear h o1
  go_enter Tryd.func52, Tryd.ntmps52
  go_wp2_with (at_builtin; rw [← hw1]; refine wpList_append_brl rfl _ _ rfl B _ _ l [1] rfl rfl o2 (by rw [← hs1]; exact b2) (by simp) (by simp only [List.length_cons, List.length_nil]; omega) (by simp; omega) ?_)
  intro v2 w2 p2 g2
  rw [← hw1] at g2
  have g2a : KO (.slice a l.length cap) v2 w1 w2 := KO.alloc g2
  have hs2 := g2a.size
  have x2 := HX1.out.ko g2a hfree
  have hf2 := g2a.free (q := w.heap.size) (by omega) hfree
  have HG2 : Hid (KO (.slice a l.length cap) v2 w1 w2) := g2a
  have HX2 : Hid (Bxc w2 w.heap.size 1 n s u) := x2
  have HP2 : Hid (OW w2 B v2 (l ++ [1])) := p2
  obtain ⟨a2, cap2, rfl⟩ := ownsRow_slice p2.2
  have hl2 : (l ++ [1]).length = l.length + 1 := by simp
  rw [hl2] at HP2 HG2 hf2 ⊢
  have hby := rbytes_any s.size 4 w2 (by omega) (by decide)
  clear c0 c1 c2 c3 o2 b2 p2 g2 g2a hw1
  obtain ⟨_, c0, c1, c2, c3⟩ := x2
  go_wp2_with fail
  refine hby.mono ?_
  rintro e w3 ⟨v3, rfl, o3, hb3⟩
  have hs3 := hb3.size
  have p3 : OW w3 B (.slice a2 (l.length + 1) cap2) (l ++ [1]) := HP2.out.below hb3 (Nat.le_refl _)
  have HX3 : Hid (Bxc w3 w.heap.size 1 n s u) := HX2.out.below hb3
  have HG3 : Hid (KO (.slice a l.length cap) (.slice a2 (l.length + 1) cap2) w1 w3) := HG2.out.trans (KO.of hb3)
  have q3 := o3.br
  obtain ⟨a3, cap3, rfl⟩ := ownsRow_slice o3.2
  rw [be_length] at q3 ⊢
  clear hby o3 hb3 c0 c1 c2 c3
  go_wp2_with (at_builtin; refine wpList_append_brl rfl _ _ rfl B _ _ (l ++ [1]) (be s.size 4) rfl rfl p3 q3 (by rw [be_length]; decide) (by rw [hl2, be_length]; omega) (by omega) ?_)
  intro v4 w4 p4a g4
  have p4 : OW w4 B v4 (l ++ [1] ++ be s.size 4) := by rw [List.append_assoc]; exact p4a
  have hs4 := g4.size
  have x4 := HX3.out.ko g4 hf2
  have hf4 := g4.free (q := w.heap.size) (by omega) hf2
  have HG4 : Hid (KO (.slice a l.length cap) v4 w1 w4) := HG3.out.trans g4
  have HP4 : Hid (OW w4 B v4 (l ++ [1] ++ be s.size 4)) := p4
  have HX4 : Hid (Bxc w4 w.heap.size 1 n s u) := x4
  obtain ⟨a4, cap4, rfl⟩ := ownsRow_slice p4.2
  have hl4 : (l ++ [1] ++ be s.size 4).length = l.length + 1 + 4 := by simp [be_length]
  rw [hl4] at HP4 HG4 hf4 ⊢
  obtain ⟨_, c0, c1, c2, c3⟩ := x4
  clear p3 q3 p4 p4a g4
  by_cases cM : l.length + 5 + s.size ≤ 1048576
  · have cMi : ¬ (l.length : Int) + 1 + 4 + (s.size : Int) > 1048576 := by omega
    have cMj : ¬ (l.length : Int) + 1 + 4 + (s.size : Int) > 1048576 := by omega
    have p4 := HP4.out
    go_wp2_with (at_builtin; refine wpList_append_txt rfl _ _ rfl B _ (l ++ [1] ++ be s.size 4) s rfl rfl p4 (by rw [hl4]; omega) (by omega) ?_)
    intro v5 w5 p5a g5
    have p5 : OW w5 B v5 (l ++ [1] ++ be s.size 4 ++ tx s) := by simpa [List.append_assoc] using p5a
    have HG5 : Hid (KO (.slice a l.length cap) v5 w1 w5) := HG4.out.trans g5
    have x5 := HX4.out.ko g5 hf4
    have hl5 : (l ++ [1] ++ be s.size 4 ++ tx s).length = l.length + 1 + 4 + s.size := by simp [be_length, tx_length]; omega
    obtain ⟨a5, cap5, rfl⟩ := ownsRow_slice p5.2
    have HQ : Hid (PutP r B (.slice a l.length cap) w (.returned (.tuple #[.slice a5 (l.length + 1 + 4 + s.size) cap5, .int .i64 0])) w5) := by
      have hk := HK1.out _ _ HG5.out
      rw [hl5] at hk p5
      refine PutP.ok (m := l ++ ([1] ++ be s.size 4 ++ tx s)) (by rw [HR.out, if_pos cM]) (hk.below HO.out hB) ?_ hk (by simp [be_length, tx_length]; omega)
      simpa [List.append_assoc] using p5
    rw [hl5] at ⊢
    clear c0 c1 c2 c3 p4 p5 p5a g5
    obtain ⟨_, c0, c1, c2, c3⟩ := x5
    go_wp2_with fail
    go_loopw [0, 8] (fun t0 t8 wr => t0 = .slice a5 (l.length + 1 + 4 + s.size) cap5 ∧ t8 = .int .i64 0 ∧ wr = w5) (fun _ _ _ => 0)
    case atStart => exact ⟨rfl, rfl, rfl⟩
    case round =>
      obtain ⟨rfl, rfl, rfl⟩ := hrel
      go_wp2
      go_ret2
      exact HQ.out
  · have HQ : Hid (PutP r B (.slice a l.length cap) w (.returned (.tuple #[.slice none 0 0, .int .i64 2])) w4) := by
      have hk := HK1.out _ _ HG4.out
      exact PutP.err (by rw [HR.out, if_neg cM]) (hk.below HO.out hB)
    have cMi : (l.length : Int) + 1 + 4 + (s.size : Int) > 1048576 := by omega
    go_wp2
    go_ret2
    exact HQ.out

end Go.Proofs.YtjngknnkffbnmaaDoor
namespace Go.Proofs.YtjngknnkffbnmaaDoor
set_option maxRecDepth 100000
open Go.RowKit Crc

/-- The texts of a tree are such as a machine holds. -/
def ST : Tr → Prop
  | .mk _ _ s ts => s.size ≤ 140737488355328 ∧ ∀ t ∈ ts, ST t
theorem ST_mk (k : Int) (n : Nat) (s : ByteArray) (ts : List Tr) : ST (.mk k n s ts) = (s.size ≤ 140737488355328 ∧ ∀ t ∈ ts, ST t) := by rw [ST]

set_option maxRecDepth 100000 in
set_option maxHeartbeats 8000000 in
theorem rput_any (B : Nat) : ∀ (F : Nat) (t : Tr) (cv v : Value) (D : Nat) (l : List Nat) (w : World), t.dep < F → t.cnt ≤ 1000000 → ST t → D ≤ 64 → CS w (fun k => k < B) t cv → OW w B v l → B ≤ w.heap.size → l.length ≤ 1048576 → ∀ r, r = encT t D l →
    Calls Tryd.prog 52 #[v, cv, .int .i64 (64 - (D : Int))] w (PutP r B v w) := by
  intro F
  induction F with
  | zero => intro t cv v D l w h; omega
  | succ F ih =>
    intro t cv v D l w hF hcnt hST hD hcv h hB hl r hr
    cases hcv using CS.elim with
    | mk k n s ts aL capL ks ns ss us hk hn hs hlc hc h0 hS hx hrr =>
    unfold cellV
    rw [ST_mk] at hST
    by_cases k0 : k = 0
    · subst k0
      exact rput_number B n s _ v _ l w h hB hl hn r (by rw [hr]; simp [encT_mk])
    by_cases k1 : k = 1
    · subst k1
      exact rput_text B n s _ v _ l w h hB hl hST.1 r (by rw [hr]; simp [encT_mk])
    by_cases k2 : k = 2
    · subst k2
      rw [Tr.dep_mk] at hF
      rw [Tr.cnt_mk] at hcnt
      cases D with
      | zero =>
        have HR : Hid (r = .inl 2) := by show _ = _; rw [hr]; simp [encT_mk]
        have HB0 : Hid (Below B w (w.alloc (.cells #[.int .i64 2, .int .u64 n, .string s, .slice aL ts.length capL] 26))) := (Below.refl _ _).alloc hB _
        rw [show (64 : Int) - ((0 : Nat) : Int) = 64 from rfl]
        obtain ⟨a, cap, rfl⟩ := ownsRow_slice h.2
        clear h hx hrr ih h0 hS hr
        go_enter Tryd.func52, Tryd.ntmps52
        go_wp2
        go_ret2
        exact PutP.err HR.out HB0.out
      | succ D =>
        have HR : Hid (r = if l.length + 5 ≤ 1048576 then encL ts D (l ++ [2] ++ be ts.length 4) else .inl 2) := by
          show _ = _
          rw [hr]
          simp only [encT_mk]
          rw [if_neg (by decide), if_neg (by decide), if_pos trivial, List.append_assoc]
        obtain ⟨N, hN⟩ : ∃ N, N = ts.length := ⟨_, rfl⟩
        have HN : Hid (N = ts.length) := hN
        have hN6 : N ≤ 1000000 := by have := len_cnts ts; omega
        obtain ⟨d, hd⟩ : ∃ d : Int, d = 64 - ((D + 1 : Nat) : Int) := ⟨_, rfl⟩
        have hd1 : ¬ d ≥ 64 := by omega
        have HD2 : Hid (d + 1 = 64 - (D : Int)) := by show _ = _; omega
        have hd3 : 0 ≤ d ∧ d ≤ 63 := by omega
        rw [← hd]
        rw [← hN] at HR hlc ⊢
        have hsm : (N : Int) % 18446744073709551616 = (N : Int) := by omega
        have HRR : Hid (∀ i (h : i < ts.length), CS w (fun k => k < B) ts[i] (cellV (ks i) (ns i) (ss i) (us i))) := hrr
        have HX : Hid (∀ x i, aL = some x → i < ts.length → x.spot = none ∧ Lies w x.block x.off i (ks i) (ns i) (ss i) (us i)) := hx
        have HS : Hid (∀ x, aL = some x → ts ≠ [] → x.block < B) := hS
        have H0 : Hid (aL = none → ts = []) := h0
        have HF : Hid (deps ts < F + 1 ∧ 1 + cnts ts ≤ 1000000 ∧ ∀ t ∈ ts, ST t) := ⟨hF, hcnt, hST.2⟩
        have HI : Hid _ := ih
        clear hrr hx hS h0 hF hcnt hST ih hN hd hr
        obtain ⟨w1, hw1⟩ : ∃ w1, w1 = w.alloc (.cells #[.int .i64 2, .int .u64 n, .string s, .slice aL N capL] 26) := ⟨_, rfl⟩
        have hs1 : w1.heap.size = w.heap.size + 1 := by rw [hw1]; simp
        have o1 : OW w1 B v l := by rw [hw1]; exact h.alloc _
        have x1 : Bxc w1 w.heap.size 2 n s (.slice aL N capL) := by rw [hw1]; exact Bxc.new w 2 n s (.slice aL N capL) _
        have hfree : v.ownBlock ≠ some w.heap.size := fun e => by have := (h.2.lt _ e).2; omega
        have HK1 : Hid (∀ v' w', KO v v' w1 w' → KO v v' w w') := fun v' w' k => by rw [hw1] at k; exact k.alloc
        obtain ⟨a, cap, rfl⟩ := ownsRow_slice h.2
        have HX1 : Hid (Bxc w1 w.heap.size 2 n s (.slice aL N capL)) := x1
        obtain ⟨_, c0, c1, c2, c3⟩ := x1
        have HO : Hid (OW w B (.slice a l.length cap) l) := h
        have o2 := o1.alloc (.cells #[.int .u8 (2 : Nat)] 5)
        have b2 := br_one w1 2 (by decide)
        clear h o1
        go_enter Tryd.func52, Tryd.ntmps52
        go_wp2_with (at_builtin; rw [← hw1]; refine wpList_append_brl rfl _ _ rfl B _ _ l [2] rfl rfl o2 (by rw [← hs1]; exact b2) (by simp) (by simp only [List.length_cons, List.length_nil]; omega) (by simp; omega) ?_)
        intro v2 w2 p2 g2
        rw [← hw1] at g2
        have g2a : KO (.slice a l.length cap) v2 w1 w2 := KO.alloc g2
        have hs2 := g2a.size
        have x2 := HX1.out.ko g2a hfree
        have hf2 := g2a.free (q := w.heap.size) (by omega) hfree
        have HG2 : Hid (KO (.slice a l.length cap) v2 w1 w2) := g2a
        have HX2 : Hid (Bxc w2 w.heap.size 2 n s (.slice aL N capL)) := x2
        have HP2 : Hid (OW w2 B v2 (l ++ [2])) := p2
        obtain ⟨a2, cap2, rfl⟩ := ownsRow_slice p2.2
        have hl2 : (l ++ [2]).length = l.length + 1 := by simp
        rw [hl2] at HP2 HG2 hf2 ⊢
        have hby := rbytes_any N 4 w2 (by omega) (by decide)
        clear c0 c1 c2 c3 o2 b2 p2 g2 g2a hw1
        obtain ⟨_, c0, c1, c2, c3⟩ := x2
        go_wp2_with fail
        refine hby.mono ?_
        rintro e w3 ⟨v3, rfl, o3, hb3⟩
        have hs3 := hb3.size
        have p3 : OW w3 B (.slice a2 (l.length + 1) cap2) (l ++ [2]) := HP2.out.below hb3 (Nat.le_refl _)
        have HX3 : Hid (Bxc w3 w.heap.size 2 n s (.slice aL N capL)) := HX2.out.below hb3
        have HG3 : Hid (KO (.slice a l.length cap) (.slice a2 (l.length + 1) cap2) w1 w3) := HG2.out.trans (KO.of hb3)
        have q3 := o3.br
        obtain ⟨a3, cap3, rfl⟩ := ownsRow_slice o3.2
        rw [be_length] at q3 ⊢
        clear hby o3 hb3 c0 c1 c2 c3
        go_wp2_with (at_builtin; refine wpList_append_brl rfl _ _ rfl B _ _ (l ++ [2]) (be N 4) rfl rfl p3 q3 (by rw [be_length]; decide) (by rw [hl2, be_length]; omega) (by omega) ?_)
        intro v4 w4 p4a g4
        have p4 : OW w4 B v4 (l ++ [2] ++ be N 4) := by rw [List.append_assoc]; exact p4a
        have hs4 := g4.size
        have x4 := HX3.out.ko g4 hf2
        have hf4 := g4.free (q := w.heap.size) (by omega) hf2
        have HG4 : Hid (KO (.slice a l.length cap) v4 w1 w4) := HG3.out.trans g4
        have HP4 : Hid (OW w4 B v4 (l ++ [2] ++ be N 4)) := p4
        have HX4 : Hid (Bxc w4 w.heap.size 2 n s (.slice aL N capL)) := x4
        obtain ⟨a4, cap4, rfl⟩ := ownsRow_slice p4.2
        have hl4 : (l ++ [2] ++ be N 4).length = l.length + 1 + 4 := by simp [be_length]
        rw [hl4] at HP4 HG4 hf4 ⊢
        obtain ⟨_, c0, c1, c2, c3⟩ := x4
        clear p3 q3 p4 p4a g4
        by_cases cM : l.length + 5 ≤ 1048576
        · have cMi : ¬ (l.length : Int) + 1 + 4 > 1048576 := by omega
          have hNi : ¬ (N : Int) > 1048576 := by omega
          have HR2 : Hid (r = encL ts D (l ++ [2] ++ be N 4)) := by
            show _ = _
            rw [HR.out, if_pos cM]
          go_wp2_with fail
          go_loopw [0, 8] (fun t0 t8 wr => ∃ i : Nat, i ≤ N ∧ t8 = .int .i64 i ∧ Hid (∃ m, OW wr B t0 m ∧ KO (.slice a l.length cap) t0 w1 wr ∧ t0.ownBlock ≠ some w.heap.size ∧ Bxc wr w.heap.size 2 n s (.slice aL N capL) ∧ m.length ≤ 1048576 ∧ encL (ts.take i) D (l ++ [2] ++ be N 4) = .inr m)) (fun _ t8 _ => N - (intOf t8).toNat)
          case atStart => exact ⟨0, Nat.zero_le _, rfl, ⟨_, HP4.out, HG4.out, hf4, HX4.out, by rw [hl4]; omega, by simp [encL_nil]⟩⟩
          case round =>
            obtain ⟨i, hi, rfl, HV⟩ := hrel
            obtain ⟨m, v1, v2, v3, v4, v5, v6⟩ := HV.out
            have hsr := v2.size
            obtain ⟨a0, cap0, e0⟩ := ownsRow_slice v1.2
            subst e0
            clear c0 c1 c2 c3
            have HV4 : Hid (Bxc wr w.heap.size 2 n s (.slice aL N capL)) := v4
            obtain ⟨_, c0, c1, c2, c3⟩ := v4
            by_cases c : i < N
            · have i1 : i < ts.length := by rw [← HN.out]; exact c
              obtain ⟨x, hx⟩ : ∃ x, aL = some x := by
                cases aL with
                | some x => exact ⟨x, rfl⟩
                | none => rw [H0.out rfl] at i1; exact absurd i1 (by simp)
              subst hx
              have hxB := HS.out x rfl (fun e => by rw [e] at i1; exact absurd i1 (by simp))
              have hbw : Below B w wr := (HK1.out _ _ v2).below HO.out hB
              obtain ⟨hsp, hli0⟩ := HX.out x i rfl i1
              obtain ⟨g, o, sp⟩ := x
              simp only at hsp
              subst hsp
              obtain ⟨l0, l1, l2, l3⟩ := hli0.same (w' := wr) (hbw.block g hxB)
              have hcs := (HRR.out i i1).kept (w' := wr) (fun k hk => hbw.block k hk)
              have hcall := HI.out ts[i] _ _ D m wr (by have := deps_get i i1; have := HF.out.1; omega) (by have := cnts_get i i1; have := HF.out.2.1; omega) (HF.out.2.2 _ (List.getElem_mem i1)) (by omega) hcs v1 (by omega) v5 _ rfl
              unfold cellV at hcall
              rw [← HD2.out] at hcall
              have hnext := encL_take ts i i1 D _ m v6
              have HBW : Hid (Below B w wr) := hbw
              have HV2 : Hid _ := v2
              have HV3 : Hid _ := v3
              clear hcs v1 v2 v3 v6 hli0 hbw HV
              generalize hE : encT ts[i] D m = E at hcall hnext
              go_wp2_with fail
              refine hcall.mono ?_
              rintro e w5 ⟨v7, x7, rfl, hb7, hm7⟩
              clear hcall l0 l1 l2 l3
              cases E with
              | inl y =>
                obtain ⟨rfl, rfl⟩ := hm7
                have hy := enc_err _ _ _ y hE
                have HQ : Hid (PutP r B (.slice a l.length cap) w (.returned (.tuple #[.slice none 0 0, .int .i64 y])) w5) := by
                  have e1 : r = .inl y := by rw [HR2.out]; exact encL_stop ts (i + 1) D _ y hnext
                  exact PutP.err e1 (HBW.out.trans hb7)
                clear hnext hb7 hE
                rcases hy with rfl | rfl
                · go_wp2
                  go_ret2
                  exact HQ.out
                · go_wp2
                  go_ret2
                  exact HQ.out
              | inr m2 =>
                obtain ⟨o7, rfl, k7, h7⟩ := hm7
                have HV5 : Hid (∃ m, OW w5 B v7 m ∧ KO (.slice a l.length cap) v7 w1 w5 ∧ v7.ownBlock ≠ some w.heap.size ∧ Bxc w5 w.heap.size 2 n s (.slice (some ⟨g, o, none⟩) N capL) ∧ m.length ≤ 1048576 ∧ encL (ts.take (i + 1)) D (l ++ [2] ++ be N 4) = .inr m) := ⟨m2, o7, HV2.out.trans k7, k7.free (by omega) HV3.out, HV4.out.ko k7 HV3.out, h7, hnext⟩
                obtain ⟨a7, cap7, rfl⟩ := ownsRow_slice o7.2
                clear o7 k7 h7 hnext hE hb7
                go_wp2
                go_roundw
                case rel => exact ⟨i + 1, by omega, by go_num, HV5⟩
                case measure => simp [intOf]; omega
            · have e : i = N := by omega
              subst e
              have HQ : Hid (PutP r B (.slice a l.length cap) w (.returned (.tuple #[.slice a0 m.length cap0, .int .i64 0])) wr) := by
                rw [HN.out, List.take_length] at v6
                have hk := HK1.out _ _ v2
                exact PutP.ok (by rw [HR2.out, HN.out]; exact v6) (hk.below HO.out hB) v1 hk v5
              clear v1 v2 v3 v5 v6 HV
              go_wp2
              go_ret2
              exact HQ.out
        · have cMi : (l.length : Int) + 1 + 4 > 1048576 := by omega
          have hNi : ¬ (N : Int) > 1048576 := by omega
          have HQ : Hid (PutP r B (.slice a l.length cap) w (.returned (.tuple #[.slice none 0 0, .int .i64 2])) w4) := by
            have hk := HK1.out _ _ HG4.out
            exact PutP.err (by rw [HR.out, if_neg cM]) (hk.below HO.out hB)
          go_wp2
          go_ret2
          exact HQ.out
    · have e : r = .inl 1 := by rw [hr]; simp [encT_mk, k0, k1, k2]
      rw [e]
      exact rput_bad B k n s _ v _ w hB k0 k1 k2

set_option maxHeartbeats 1000000 in
/-- The reference's Encode. -/
theorem rencode_any (t : Tr) (v : Value) (w : World) (h : CR w t v) (hc : t.cnt ≤ 1000000) (hs : ST t) (r : Nat ⊕ List Nat) (hr : r = encT t 64 []) :
    Calls Tryd.prog 30 #[v] w (Encd r w) := by
  have hcs := h.cs
  obtain ⟨k, n, s, a, m, cap, rfl⟩ := hcs.form
  obtain ⟨w1, hw1⟩ : ∃ w1, w1 = w.alloc (.cells #[.int .i64 k, .int .u64 n, .string s, .slice a m cap] 26) := ⟨_, rfl⟩
  have hs1 : w1.heap.size = w.heap.size + 1 := by rw [hw1]; simp
  have hb1 : Below w.heap.size w w1 := by rw [hw1]; exact (Below.refl _ _).alloc (Nat.le_refl _) _
  have hcall := rput_any w.heap.size (t.dep + 1) t _ (.slice none 0 0) 64 [] w1 (Nat.lt_succ_self _) hc hs (Nat.le_refl _) (hcs.kept (fun k hk => hb1.block k hk)) ⟨fun d hd => by simp at hd, World.ownsRow_nil _ _ _ _⟩ (by omega) (by simp) r hr
  rw [show (64 : Int) - ((64 : Nat) : Int) = 0 from rfl] at hcall
  have HB1 : Hid (Below w.heap.size w w1) := hb1
  unfold cellV at hcall ⊢
  clear h hcs hr hb1
  go_enter Tryd.func30, Tryd.ntmps30
  go_wp2_with fail
  rw [← hw1]
  refine hcall.mono ?_
  rintro e w2 ⟨v2, x2, rfl, hb2, hm⟩
  have HQ : Hid (Encd r w (.returned (.tuple #[v2, .int .i64 x2])) w2) := by
    refine ⟨v2, x2, rfl, HB1.out.trans hb2, ?_⟩
    cases r with
    | inl y => exact hm
    | inr m => exact ⟨hm.1, hm.2.1⟩
  clear hcall hb2 hm
  go_wp2
  go_ret2
  exact HQ.out

end Go.Proofs.YtjngknnkffbnmaaDoor
