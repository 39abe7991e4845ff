/-
  Layer 7: the reference's Own, walked.
-/
import Derived.Test.YtjngknnkffbnmaaDoorFrMem
import Derived.Deep.AppendLies
import Derived.WalkSmall
import Derived.Lib.AppendStr
import Derived.Deep.RegionLaw
import Derived.Deep.QuietTactic
import Derived.BigQuiet
namespace Go.Proofs.YtjngknnkffbnmaaDoor
set_option maxRecDepth 100000
open Go.RowKit Crc

/-- A writer in the block b that has laid the bytes l, in memory of its own, not below B. -/
structure WR (w : World) (b B : Nat) (v : Value) (l : List Nat) : Prop where
  c : w.cell? ⟨b, 0, none⟩ = some v
  fz : ∀ i, w.frozen? ⟨b, i, none⟩ = false
  ow : OW w B v l
  lo : B ≤ b
  lt : b < w.heap.size
  ne : ∀ k, v.ownBlock = some k → k ≠ b

theorem OW.shape {w : World} {B : Nat} {v : Value} {l : List Nat} (h : OW w B v l) : ∃ a cap, v = .slice a l.length cap ∧ l.length ≤ 9223372036854775807 := by
  obtain ⟨_, a, cap, rfl, h1, h2, _⟩ := h.br
  unfold maxLen at h2
  exact ⟨a, cap, rfl, by omega⟩

/-- Nothing was turned but the writer's block and its bytes; where its bytes lie now is there or new. -/
structure Kept (b : Nat) (v v' : Value) (w w' : World) : Prop where
  os : w'.os = w.os
  tape : w'.tape = w.tape
  output : w'.output = w.output
  size : w.heap.size ≤ w'.heap.size
  block : ∀ k, k < w.heap.size → k ≠ b → v.ownBlock ≠ some k → w'.heap[k]? = w.heap[k]?
  own : ∀ k, v'.ownBlock = some k → v.ownBlock = some k ∨ w.heap.size ≤ k

theorem Kept.refl (b : Nat) (v : Value) (w : World) : Kept b v v w w := ⟨rfl, rfl, rfl, Nat.le_refl _, fun _ _ _ _ => rfl, fun _ h => Or.inl h⟩
theorem Kept.trans {b : Nat} {v v' v'' : Value} {w w' w'' : World} (h : Kept b v v' w w') (k : Kept b v' v'' w' w'') : Kept b v v'' w w'' := by
  refine ⟨k.os.trans h.os, k.tape.trans h.tape, k.output.trans h.output, Nat.le_trans h.size k.size, fun i hi hb hv => ?_, fun i hi => ?_⟩
  · rw [k.block i (Nat.lt_of_lt_of_le hi h.size) hb (fun e => ?_), h.block i hi hb hv]
    rcases h.own i e with e1 | e1
    · exact hv e1
    · omega
  · rcases k.own i hi with e | e
    · exact h.own i e
    · exact Or.inr (Nat.le_trans h.size e)
theorem Kept.below {b B : Nat} {v v' : Value} {l : List Nat} {w w' : World} (h : Kept b v v' w w') (hw : WR w b B v l) : Below B w w' := by
  have hlt := hw.lt
  have hlo := hw.lo
  exact ⟨h.os, h.tape, h.output, h.size, fun k hk => h.block k (by omega) (by omega) (fun e => by have := (hw.ow.2.lt k e).1; omega)⟩
theorem Kept.cell {b : Nat} {v v' : Value} {w w' : World} (h : Kept b v v' w w') {k : Nat} (hk : k < w.heap.size) (hb : k ≠ b) (hv : v.ownBlock ≠ some k) (j : Nat) : w'.cell? ⟨k, j, none⟩ = w.cell? ⟨k, j, none⟩ :=
  World.cell?_of_block (w := w) (h.block k hk hb hv)
theorem WR.alloc {w : World} {b B : Nat} {v : Value} {l : List Nat} (h : WR w b B v l) (o : Obj) : WR (w.alloc o) b B v l := by
  have hlt := h.lt
  have hb := Below.heap_alloc w o b hlt
  refine ⟨(World.cell?_of_block (w := w) (a := ⟨b, 0, none⟩) hb).trans h.c, fun i => (World.frozen?_of_block (w := w) (a := ⟨b, i, none⟩) hb).trans (h.fz i), ⟨h.ow.1, h.ow.2.alloc o⟩, h.lo, ?_, h.ne⟩
  have : (w.alloc o).heap.size = w.heap.size + 1 := by simp
  omega
theorem Kept.alloc {b : Nat} {v v' : Value} {w w' : World} {o : Obj} (h : Kept b v v' (w.alloc o) w') : Kept b v v' w w' := by
  have hs : (w.alloc o).heap.size = w.heap.size + 1 := by simp
  have hz := h.size
  refine ⟨h.os, h.tape, h.output, by omega, fun k hk hb hv => ?_, fun k hk => ?_⟩
  · rw [h.block k (by omega) hb hv]
    exact Below.heap_alloc w o k hk
  · rcases h.own k hk with e | e
    · exact Or.inl e
    · exact Or.inr (by omega)

set_option maxHeartbeats 400000 in
theorem room_ok (b B m : Nat) (v : Value) (l : List Nat) (w : World) (h : WR w b B v l) (hl : l.length + m ≤ 1048576) :
    Calls Tryd.prog 62 #[.pointer (some ⟨b, 0, none⟩), .int .i64 m] w fun e w' => e = .returned (.tuple #[]) ∧ w' = w := by
  have hc := h.c
  obtain ⟨a, cap, rfl, h1⟩ := h.ow.shape
  clear h
  generalize l.length = n at *
  go_enter Tryd.func62, Tryd.ntmps62
  go_wp2
  exact bodyPost_end (v := .tuple #[]) (by simp [results, Tryd.results62, go_sem]) rfl ⟨rfl, rfl⟩

end Go.Proofs.YtjngknnkffbnmaaDoor
namespace Go.Proofs.YtjngknnkffbnmaaDoor
set_option maxRecDepth 100000
open Go.RowKit Crc

/-- A reader in the block b, with the bytes l left, that lie elsewhere, in a block below H. -/
structure RD (w : World) (b H : Nat) (v : Value) (l : List Nat) : Prop where
  c : w.cell? ⟨b, 0, none⟩ = some v
  fz : ∀ i, w.frozen? ⟨b, i, none⟩ = false
  br : BR w v l
  ne : ∀ a n k, v = .slice (some a) n k → a.block ≠ b
  hi : ∀ a n k, v = .slice (some a) n k → a.block < H
  lt : b < w.heap.size

theorem add_block (x : Addr) (i : Nat) : (x.add i).block = x.block := by unfold Addr.add; split <;> rfl

theorem BR.setFar {w : World} {b : Nat} {u v : Value} {l : List Nat} (h : BR w v l) (hf : ∀ a n k, v = .slice (some a) n k → a.block ≠ b) : BR (w.setCell ⟨b, 0, none⟩ u) v l := by
  obtain ⟨h1, a, cap, h2, h3, h4, h5⟩ := h
  refine ⟨h1, a, cap, h2, h3, h4, ?_⟩
  rcases h5 with c | ⟨x, e, hc⟩
  · exact Or.inl c
  · refine Or.inr ⟨x, e, fun i hi => ?_⟩
    have := hf x _ _ (by rw [h2, e])
    rw [World.cell?_setCell_other _ _ _ _ (fun e2 => this (by rw [← add_block x i, ← e2]))]
    exact hc i hi

theorem RD.taken {w : World} {b H n cap m : Nat} {a : Option Addr} {l : List Nat} (h : RD w b H (.slice a n cap) l) (hm : m ≤ l.length) :
    BR (w.setCell ⟨b, 0, none⟩ (sliced a m n cap 1)) (.slice a m cap) (l.take m) ∧ RD (w.setCell ⟨b, 0, none⟩ (sliced a m n cap 1)) b H (sliced a m n cap 1) (l.drop m) := by
  have hn : n = l.length := by obtain ⟨_, _, _, e, _⟩ := h.br; simp only [Value.slice.injEq] at e; exact e.2.1
  have hf : ∀ x k c, sliced a m n cap 1 = .slice (some x) k c → x.block ≠ b := by
    intro x k c e
    unfold sliced at e
    cases a with
    | none => split at e <;> simp at e
    | some y =>
      have hy := h.ne y _ _ rfl
      split at e
      · simp at e; rw [← e.1]; exact hy
      · simp at e; rw [← e.1, add_block]; exact hy
  have hf2 : ∀ x k c, sliced a m n cap 1 = .slice (some x) k c → x.block < H := by
    intro x k c e
    unfold sliced at e
    cases a with
    | none => split at e <;> simp at e
    | some y =>
      have hy := h.hi y _ _ rfl
      split at e
      · simp at e; rw [← e.1]; exact hy
      · simp at e; rw [← e.1, add_block]; exact hy
  have hc := h.br.cut (lo := m) (hi := n) (by omega) (by omega)
  rw [hn, List.take_length, ← hn] at hc
  refine ⟨(h.br.head hm).setFar (fun x k c e => by simp at e; exact h.ne x _ _ (by rw [e.1])), ⟨World.cell?_setCell_same _ _ _ h.c, fun i => by rw [World.frozen?_setCell]; exact h.fz i, hc.setFar hf, hf, hf2, by rw [World.size_setCell]; exact h.lt⟩⟩

set_option maxHeartbeats 400000 in
theorem take_ok (b H m : Nat) (v : Value) (l : List Nat) (w : World) (h : RD w b H v l) (hm : m ≤ l.length) :
    Calls Tryd.prog 64 #[.pointer (some ⟨b, 0, none⟩), .int .i64 m] w fun e w' => ∃ v1 v2, e = .returned v1 ∧ w' = w.setCell ⟨b, 0, none⟩ v2 ∧ BR w' v1 (l.take m) ∧ RD w' b H v2 (l.drop m) := by
  have hc := h.c
  have hz := h.fz 0
  obtain ⟨a, n, cap, rfl, h1, h2, h3⟩ : ∃ a n cap, v = .slice a n cap ∧ n = l.length ∧ n ≤ cap ∧ cap ≤ maxLen := by
    obtain ⟨_, a, cap, e, k1, k2, _⟩ := h.br; exact ⟨a, _, cap, e, rfl, k1, k2⟩
  have HQ : Hid _ := h.taken hm
  rw [← h1] at hm
  have hm1 : ¬ (m : Int) > (n : Int) := by omega
  have hm2 : (m : Int) ≤ (cap : Int) := by omega
  unfold maxLen at h3
  clear h h1
  go_enter Tryd.func64, Tryd.ntmps64
  go_wp2
  · go_ret
    have k := HQ.out
    unfold sliced at k
    rw [if_pos h, h, Nat.sub_self] at k
    exact ⟨_, rfl, _, rfl, k⟩
  · go_ret
    have k := HQ.out
    unfold sliced at k
    rw [if_neg h] at k
    simp only [Nat.mul_one] at k
    exact ⟨_, rfl, _, rfl, k⟩

end Go.Proofs.YtjngknnkffbnmaaDoor
namespace Go.Proofs.YtjngknnkffbnmaaDoor
set_option maxRecDepth 100000
open Go.RowKit Crc

/-- The number that bytes are, the highest first. -/
def nb (l : List Nat) : Nat := l.foldl (fun n d => n * 256 + d) 0

theorem nb_snoc (l : List Nat) (d : Nat) : nb (l ++ [d]) = nb l * 256 + d := by unfold nb; rw [List.foldl_append]; rfl

theorem nb_take (l : List Nat) (i : Nat) (h : i < l.length) : nb (l.take (i + 1)) = nb (l.take i) * 256 + l.getD i 0 := by
  rw [List.take_succ_eq_append_getElem h, nb_snoc]
  congr 1
  simp [h]

theorem nb_lt {l : List Nat} (hs : Sm8 l) : ∀ i, i ≤ l.length → nb (l.take i) < 256 ^ i
  | 0, _ => by simp [nb]
  | i + 1, h => by
    rw [nb_take l i (by omega)]
    have h1 := nb_lt hs i (by omega)
    have h2 := hs.getD i
    rw [Nat.pow_succ]
    omega

theorem or8 (n d : Nat) (hn : n < 72057594037927936) (hd : d < 256) : bits .or .u64 ((n : Int) * 256) (d : Int) = ((n * 256 + d : Nat) : Int) := by
  have h := bits_or_u64_nat (n * 256) d (by omega) (by omega)
  rw [show ((n * 256 : Nat) : Int) = (n : Int) * 256 by omega] at h
  rw [h]
  congr 1
  rw [show n * 256 = 2 ^ 8 * n by omega, Nat.two_pow_add_eq_or_of_lt (i := 8) (b := d) (by omega) n]

set_option maxHeartbeats 1000000 in
theorem rnumber_ok (b H s : Nat) (v : Value) (l : List Nat) (w : World) (h : RD w b H v l) (hs : s ≤ l.length) (hs8 : s ≤ 8) :
    Calls Tryd.prog 65 #[.pointer (some ⟨b, 0, none⟩), .int .i64 s] w fun e w' => e = .returned (.int .u64 (nb (l.take s) : Nat)) ∧ ∃ v2, w' = w.setCell ⟨b, 0, none⟩ v2 ∧ RD w' b H v2 (l.drop s) := by
  have htake := take_ok b H s v l w h hs
  have HL : Hid ((l.take s).length = s) := by show _ = _; rw [List.length_take]; omega
  clear h
  go_enter Tryd.func65, Tryd.ntmps65
  go_wp2_with fail
  refine htake.mono ?_
  rintro e w1 ⟨v1, v2, rfl, hw, hb, hr⟩
  have HQ : Hid (∃ v2, w1 = w.setCell ⟨b, 0, none⟩ v2 ∧ RD w1 b H v2 (l.drop s)) := ⟨v2, hw, hr⟩
  clear hr htake hw
  have HB : Hid (BR w1 v1 (l.take s)) := hb
  obtain ⟨m, hm⟩ : ∃ m, m = l.take s := ⟨_, rfl⟩
  have HM : Hid (m = l.take s) := hm
  rw [← hm] at HL hb HB
  clear hm
  obtain ⟨a, cap, rfl, k1, k2⟩ : ∃ a cap, v1 = .slice a s cap ∧ s ≤ cap ∧ cap ≤ maxLen := by
    obtain ⟨_, a, cap, e, k1, k2, _⟩ := hb; rw [HL.out] at e k1; exact ⟨a, cap, e, k1, k2⟩
  unfold maxLen at k2
  clear hb hs
  go_wp2_with fail
  go_loop [5, 12] (fun t5 t12 => ∃ i : Nat, i ≤ s ∧ t12 = .int .i64 i ∧ t5 = .int .u64 (nb (m.take i) : Nat)) (fun _ t12 => s - (intOf t12).toNat)
  case atStart => exact ⟨0, Nat.zero_le _, rfl, rfl⟩
  case round =>
    obtain ⟨i, hi, rfl, rfl⟩ := hrel
    by_cases c : i < s
    · obtain ⟨x, rfl, hcell, hd⟩ := HB.out.cell (i := i) (by rw [HL.out]; exact c)
      have hN := nb_take m i (by rw [HL.out]; exact c)
      have hlt : nb (m.take i) < 72057594037927936 := Nat.lt_of_lt_of_le (nb_lt HB.out.1 i (by rw [HL.out]; omega)) (Nat.pow_le_pow_right (n := 256) (j := 7) (by decide) (by omega))
      have ho := or8 (nb (m.take i)) (m.getD i 0) hlt hd
      rw [← hN] at ho
      clear hN
      obtain ⟨N', hN'⟩ : ∃ N', N' = nb (m.take (i + 1)) := ⟨_, rfl⟩
      have HN : Hid (N' = nb (m.take (i + 1))) := hN'
      rw [← hN'] at ho
      clear hN'
      generalize nb (m.take i) = N at *
      generalize m.getD i 0 = d at *
      have hci : (i : Int) < (s : Int) := by omega
      go_wp2
      go_round
      case rel => exact ⟨i + 1, by omega, by go_num, by rw [HN.out]⟩
      case measure => simp [intOf]; omega
    · have e : i = s := by omega
      subst e
      have em : m.take i = l.take i := by rw [HM.out, List.take_take, Nat.min_self]
      rw [em]
      have hci : ¬ (i : Int) < (i : Int) := by omega
      go_wp2
      go_ret
      exact ⟨rfl, HQ.out⟩

set_option maxHeartbeats 400000 in
theorem count_ok (b H : Nat) (v : Value) (l : List Nat) (w : World) (h : RD w b H v l) (hs : 4 ≤ l.length) (hc : nb (l.take 4) ≤ l.length - 4) (hl : l.length ≤ 1048576) :
    Calls Tryd.prog 66 #[.pointer (some ⟨b, 0, none⟩)] w fun e w' => e = .returned (.int .i64 (nb (l.take 4) : Nat)) ∧ ∃ v2, w' = w.setCell ⟨b, 0, none⟩ v2 ∧ RD w' b H v2 (l.drop 4) := by
  have hnum := rnumber_ok b H 4 v l w h hs (by decide)
  clear h
  go_enter Tryd.func66, Tryd.ntmps66
  go_wp2_with fail
  refine hnum.mono ?_
  rintro e w1 ⟨rfl, v2, hw, hr⟩
  have HQ : Hid (∃ v2, w1 = w.setCell ⟨b, 0, none⟩ v2 ∧ RD w1 b H v2 (l.drop 4)) := ⟨v2, hw, hr⟩
  have hcell := hr.c
  obtain ⟨a, n, cap, rfl, k1⟩ : ∃ a n cap, v2 = .slice a n cap ∧ n = l.length - 4 := by
    obtain ⟨_, a, cap, e, _⟩ := hr.br; exact ⟨a, _, cap, e, by rw [List.length_drop]⟩
  clear hr hnum hw
  have hn1 : ¬ ((nb (l.take 4) : Nat) : Int) > (n : Int) := by omega
  have hn2 : n ≤ 1048576 := by omega
  have hn3 : nb (l.take 4) ≤ 1048576 := by omega
  have hn4 : (n : Int) % 18446744073709551616 = (n : Int) := by omega
  go_wp2
  go_ret
  exact ⟨rfl, HQ.out⟩

end Go.Proofs.YtjngknnkffbnmaaDoor
namespace Go.Proofs.YtjngknnkffbnmaaDoor
set_option maxRecDepth 100000
open Go.RowKit Crc

theorem cell_one (w : World) (u : Value) (t : TypeId) : ∀ j y, [u][j]? = some y → (w.alloc (.cells #[u] t)).cell? (Addr.add ⟨w.heap.size, 0, none⟩ j) = some y := by
  intro j y hy
  match j, hy with
  | 0, hy =>
    rw [Addr_add_zero, World.cell?_alloc_new]
    simpa using hy

/-- What is laid and then noted in the writer's block is the writer's again. -/
theorem WR.laid {w w1 w2 : World} {b B g cap : Nat} {v : Value} {l : List Nat} {c : Nat} (h : WR w b B v l) (hc : c < 256) (o : Obj) (hw : w1 = w.alloc o)
    (hown : w2.ownsRow B 5 1 (.slice (some ⟨g, 0, none⟩) (l.length + 1) cap) (l.length + 1) (c8 l ++ [.int .u8 (c : Int)])) (hgrow : w1.grownBy w2 v.ownBlock) (hat : v.ownBlock = some g ∨ g = w.heap.size + 1) :
    w2.cell? ⟨b, 0, none⟩ = some v ∧ w2.frozen? ⟨b, 0, none⟩ = false ∧ WR (w2.setCell ⟨b, 0, none⟩ (.slice (some ⟨g, 0, none⟩) (l.length + 1) cap)) b B (.slice (some ⟨g, 0, none⟩) (l.length + 1) cap) (l ++ [c]) ∧
      Kept b v (.slice (some ⟨g, 0, none⟩) (l.length + 1) cap) w (w2.setCell ⟨b, 0, none⟩ (.slice (some ⟨g, 0, none⟩) (l.length + 1) cap)) := by
  subst hw
  have hlt := h.lt
  have hlo := h.lo
  have hs1 : (w.alloc o).heap.size = w.heap.size + 1 := by simp
  have hbb : w2.heap[b]? = w.heap[b]? := by
    rw [hgrow.block b (by omega) (fun e => h.ne b e.symm rfl)]
    exact Below.heap_alloc w _ b hlt
  have hgb : g ≠ b := by
    rcases hat with e | e
    · exact h.ne g e
    · omega
  have hc2 : w2.cell? ⟨b, 0, none⟩ = some v := by
    have := h.c
    unfold World.cell? at this ⊢
    simpa [hbb] using this
  have hf2 : ∀ i, w2.frozen? ⟨b, i, none⟩ = false := by
    intro i
    have := h.fz i
    unfold World.frozen? at this ⊢
    simpa [hbb] using this
  have hsz := hgrow.size
  have hb2 : Below B w w2 := ((Below.refl B w).alloc (by omega) o).grown hgrow (by omega) (fun k hk => (h.ow.2.lt k hk).1)
  have hkp : Kept b v (.slice (some ⟨g, 0, none⟩) (l.length + 1) cap) w (w2.setCell ⟨b, 0, none⟩ (.slice (some ⟨g, 0, none⟩) (l.length + 1) cap)) := by
    refine ⟨hb2.os, hb2.tape, hb2.output, by rw [World.size_setCell]; omega, fun k hk hb hv => ?_, fun k hk => ?_⟩
    · rw [heap_setCell_other _ _ _ _ hb, hgrow.block k (by omega) (fun e => hv e.symm)]
      exact Below.heap_alloc w _ k hk
    · simp [Value.ownBlock] at hk
      subst hk
      rcases hat with e | e
      · exact Or.inl e
      · exact Or.inr (by omega)
  refine ⟨hc2, hf2 0, ⟨?_, ?_, ?_, hlo, ?_, ?_⟩, hkp⟩
  · exact World.cell?_setCell_same _ _ _ hc2
  · intro i; rw [World.frozen?_setCell]; exact hf2 i
  · refine ⟨h.ow.1.append (fun d hd => by simp at hd; omega), ?_⟩
    rw [c8_append, List.length_append]
    exact ownsRow_far (g := g) hown (heap_setCell_other _ _ _ _ hgb) rfl
  · rw [World.size_setCell]; omega
  · intro k hk
    simp [Value.ownBlock] at hk
    omega

set_option maxHeartbeats 1000000 in
theorem lay_ok (b B c : Nat) (v : Value) (l : List Nat) (w : World) (h : WR w b B v l) (hl : l.length + 1 ≤ 1048576) (hc : c < 256) :
    Calls Tryd.prog 60 #[.pointer (some ⟨b, 0, none⟩), .int .u8 c] w fun e w' => e = .returned (.tuple #[]) ∧ ∃ v', WR w' b B v' (l ++ [c]) ∧ Kept b v v' w w' := by
  obtain ⟨i0, hi, hz0, hz1, hz2⟩ := info_parts info8
  have H : Hid (WR w b B v l) := h
  have hroom := room_ok b B 1 v l w h hl
  have hcell := h.c
  have hown : (w.alloc (.cells #[.int .u8 (c : Int)] 5)).ownsRow B 5 1 v l.length (c8 l) := h.ow.2.alloc _
  have hlo := h.lo
  have hlt := h.lt
  clear h
  go_enter Tryd.func60, Tryd.ntmps60
  go_wp2_with fail
  refine hroom.mono ?_
  rintro e w1 ⟨rfl, rfl⟩
  go_wp2_with (at_builtin; refine wpList_append_lies _ rfl _ _ 31 rfl B 5 i0 (.int .u8 0) 1 1 Tryd.underlying31 hi hz0 hz1 hz2 rfl (by decide) _ l.length (c8 l) rfl hown ⟨w1.heap.size, 0, none⟩ 1 1 [.int .u8 (c : Int)] rfl rfl (cell_one _ _ _) (by intro u hu; simp at hu; subst hu; rfl) (by decide) (by unfold maxLen; omega) (by omega) (by simp; omega) _ rfl ?_)
  intro g cap w2 hown' hgrow hat _
  obtain ⟨k1, k2, k3, k4⟩ := H.out.laid hc _ rfl hown' hgrow (by simpa using hat)
  have HQ : Hid _ := k3
  clear hown' hgrow hat k3 hown
  go_wp2
  go_end0
  exact ⟨rfl, _, HQ.out, k4⟩

end Go.Proofs.YtjngknnkffbnmaaDoor
namespace Go.Proofs.YtjngknnkffbnmaaDoor
set_option maxRecDepth 100000
open Go.RowKit Crc

/-- A number in so many bytes, the highest first. -/
def be (n : Nat) : Nat → List Nat
  | 0 => []
  | k + 1 => n / 2 ^ (8 * k) % 256 :: be n k

theorem be_length (n : Nat) : ∀ k, (be n k).length = k
  | 0 => rfl
  | k + 1 => by unfold be; rw [List.length_cons, be_length n k]

set_option maxHeartbeats 1000000 in
theorem number_ok (b B n s : Nat) (v : Value) (l : List Nat) (w : World) (h : WR w b B v l) (hl : l.length + s ≤ 1048576) (hs : s ≤ 8) :
    Calls Tryd.prog 61 #[.pointer (some ⟨b, 0, none⟩), .int .u64 n, .int .i64 s] w fun e w' => e = .returned (.tuple #[]) ∧ ∃ v', WR w' b B v' (l ++ be n s) ∧ Kept b v v' w w' := by
  have H : Hid (WR w b B v l) := h
  clear h
  go_enter Tryd.func61, Tryd.ntmps61
  go_wp2_with fail
  go_loopw [6] (fun t6 wr => ∃ (j : Nat), j ≤ s ∧ t6 = .int .i64 ((j : Int) - 1) ∧ Hid (∃ v' m, WR wr b B v' (l ++ m) ∧ m.length + j = s ∧ m ++ be n j = be n s ∧ Kept b v v' w wr)) (fun t6 _ => (intOf t6 + 1).toNat)
  case atStart => exact ⟨s, Nat.le_refl _, by go_num, ⟨v, [], by rw [List.append_nil]; exact H.out, by simp, rfl, Kept.refl _ _ _⟩⟩
  case round =>
    obtain ⟨j, hj, rfl, HI⟩ := hrel
    cases j with
    | zero =>
      have HQ : Hid (∃ v', WR wr b B v' (l ++ be n s) ∧ Kept b v v' w wr) := by
        obtain ⟨v', m, h1, h2, h3, h4⟩ := HI.out
        have e : m = be n s := by rw [← h3]; unfold be; rw [List.append_nil]
        exact ⟨v', e ▸ h1, h4⟩
      go_wp2
      go_end0
      exact ⟨rfl, HQ.out⟩
    | succ j =>
      obtain ⟨v', m, h1, h2, h3, h4⟩ := HI.out
      have hlay := lay_ok b B (n / 2 ^ (8 * j) % 256) v' (l ++ m) wr h1 (by rw [List.length_append]; omega) (Nat.mod_lt _ (by decide))
      have HW : Hid (∀ v2 w2, WR w2 b B v2 (l ++ m ++ [n / 2 ^ (8 * j) % 256]) → Kept b v' v2 wr w2 → ∃ v' m, WR w2 b B v' (l ++ m) ∧ m.length + j = s ∧ m ++ be n j = be n s ∧ Kept b v v' w w2) := by
        intro v2 w2 k1 k2
        refine ⟨v2, m ++ [n / 2 ^ (8 * j) % 256], by rw [← List.append_assoc]; exact k1, by rw [List.length_append]; simp; omega, ?_, h4.trans k2⟩
        rw [List.append_assoc, ← h3]; rfl
      clear h1 h2 h3 h4
      obtain ⟨k, hk⟩ : ∃ k, k = 8 * j := ⟨_, rfl⟩
      have e8 : (8 : Int) * (j : Int) = (k : Int) := by omega
      have hk2 : k < 64 := by omega
      rw [← hk] at hlay HW
      obtain ⟨q, hq⟩ : ∃ q, q = n / 2 ^ k := ⟨_, rfl⟩
      have hqi : (n : Int) / 2 ^ k = (q : Int) := by rw [hq]; simp
      obtain ⟨r, hr⟩ : ∃ r, r = q % 256 := ⟨_, rfl⟩
      have hqm : (q : Int) % 256 = (r : Int) := by omega
      rw [← hq, ← hr] at hlay HW
      have hj2 : j < 8 := by omega
      rw [show ((j + 1 : Nat) : Int) - 1 = (j : Int) by omega] at *
      clear hk hq hr
      go_wp2_with fail
      refine hlay.mono ?_
      rintro e w2 ⟨rfl, v2, k1, k2⟩
      have HQ : Hid _ := HW.out v2 w2 k1 k2
      clear k1 k2 hlay
      go_wp2
      go_roundw
      case rel => exact ⟨j, by omega, by go_num, HQ⟩
      case measure => simp [intOf]

end Go.Proofs.YtjngknnkffbnmaaDoor
namespace Go.Proofs.YtjngknnkffbnmaaDoor
set_option maxRecDepth 100000
open Go.RowKit Crc

/-- Given up, with this Errno: 1 ErrArg, 2 ErrLong, 3 ErrShort, 4 ErrForm as the reader and the writer number them. -/
def gaveUp (x : Int) : Ending := .panicked [{ v := .iface 32 (.int .i64 x), recovered := false }]

set_option maxHeartbeats 400000 in
theorem take_short (b H m : Nat) (v : Value) (l : List Nat) (w : World) (h : RD w b H v l) (hm : l.length < m) :
    Calls Tryd.prog 64 #[.pointer (some ⟨b, 0, none⟩), .int .i64 m] w fun e w' => e = gaveUp 3 ∧ w' = w := by
  have hc := h.c
  obtain ⟨a, n, cap, rfl, h1⟩ : ∃ a n cap, v = .slice a n cap ∧ n = l.length := by
    obtain ⟨_, a, cap, e, _⟩ := h.br; exact ⟨a, _, cap, e, rfl⟩
  have hm1 : (m : Int) > (n : Int) := by omega
  clear h h1 hm
  go_enter Tryd.func64, Tryd.ntmps64
  go_wp2
  exact ⟨rfl, rfl, rfl⟩

set_option maxHeartbeats 400000 in
theorem room_long (b B m : Nat) (v : Value) (l : List Nat) (w : World) (h : WR w b B v l) (hl : 1048576 < l.length + m) (hl2 : l.length ≤ 1048576) :
    Calls Tryd.prog 62 #[.pointer (some ⟨b, 0, none⟩), .int .i64 m] w fun e w' => e = gaveUp 2 ∧ w' = w := by
  have hc := h.c
  obtain ⟨a, cap, rfl, h1⟩ := h.ow.shape
  clear h
  generalize l.length = n at *
  have hm1 : (m : Int) > 1048576 - (n : Int) := by omega
  go_enter Tryd.func62, Tryd.ntmps62
  go_wp2
  exact ⟨rfl, rfl, rfl⟩

set_option maxHeartbeats 400000 in
theorem lay_long (b B c : Nat) (v : Value) (l : List Nat) (w : World) (h : WR w b B v l) (hl : l.length = 1048576) :
    Calls Tryd.prog 60 #[.pointer (some ⟨b, 0, none⟩), .int .u8 c] w fun e w' => e = gaveUp 2 ∧ w' = w := by
  have hroom := room_long b B 1 v l w h (by omega) (by omega)
  clear h
  go_enter Tryd.func60, Tryd.ntmps60
  go_wp2_with fail
  refine hroom.mono ?_
  rintro e w1 ⟨rfl, rfl⟩
  unfold gaveUp
  go_wp2
  exact ⟨rfl, rfl, rfl⟩

end Go.Proofs.YtjngknnkffbnmaaDoor
namespace Go.Proofs.YtjngknnkffbnmaaDoor
set_option maxRecDepth 100000
open Go.RowKit Crc

set_option maxHeartbeats 400000 in
theorem rnumber_short (b H s : Nat) (v : Value) (l : List Nat) (w : World) (h : RD w b H v l) (hs : l.length < s) :
    Calls Tryd.prog 65 #[.pointer (some ⟨b, 0, none⟩), .int .i64 s] w fun e w' => e = gaveUp 3 ∧ w' = w := by
  have htake := take_short b H s v l w h hs
  clear h
  go_enter Tryd.func65, Tryd.ntmps65
  go_wp2_with fail
  refine htake.mono ?_
  rintro e w1 ⟨rfl, rfl⟩
  unfold gaveUp
  go_wp2
  exact ⟨rfl, rfl, rfl⟩

set_option maxHeartbeats 400000 in
theorem count_short (b H : Nat) (v : Value) (l : List Nat) (w : World) (h : RD w b H v l) (hs : l.length < 4) :
    Calls Tryd.prog 66 #[.pointer (some ⟨b, 0, none⟩)] w fun e w' => e = gaveUp 3 ∧ w' = w := by
  have htake := rnumber_short b H 4 v l w h hs
  clear h
  go_enter Tryd.func66, Tryd.ntmps66
  go_wp2_with fail
  refine htake.mono ?_
  rintro e w1 ⟨rfl, rfl⟩
  unfold gaveUp
  go_wp2
  exact ⟨rfl, rfl, rfl⟩

set_option maxHeartbeats 400000 in
theorem count_over (b H : Nat) (v : Value) (l : List Nat) (w : World) (h : RD w b H v l) (hs : 4 ≤ l.length) (hc : l.length - 4 < nb (l.take 4)) (hl : l.length ≤ 1048576) :
    Calls Tryd.prog 66 #[.pointer (some ⟨b, 0, none⟩)] w fun e w' => e = gaveUp 3 ∧ ∃ v2, w' = w.setCell ⟨b, 0, none⟩ v2 := by
  have hnum := rnumber_ok b H 4 v l w h hs (by decide)
  clear h
  go_enter Tryd.func66, Tryd.ntmps66
  go_wp2_with fail
  refine hnum.mono ?_
  rintro e w1 ⟨rfl, v2, hw, hr⟩
  have HQ : Hid (∃ v2, w1 = w.setCell ⟨b, 0, none⟩ v2) := ⟨v2, hw⟩
  have hcell := hr.c
  obtain ⟨a, n, cap, rfl, k1⟩ : ∃ a n cap, v2 = .slice a n cap ∧ n = l.length - 4 := by
    obtain ⟨_, a, cap, e, _⟩ := hr.br; exact ⟨a, _, cap, e, by rw [List.length_drop]⟩
  clear hr hnum hw
  have hn1 : ((nb (l.take 4) : Nat) : Int) > (n : Int) := by omega
  have hn2 : n ≤ 1048576 := by omega
  have hn4 : (n : Int) % 18446744073709551616 = (n : Int) := by omega
  go_wp2
  exact ⟨rfl, rfl, HQ.out⟩

set_option maxHeartbeats 1000000 in
theorem number_long (b B n s : Nat) (v : Value) (l : List Nat) (w : World) (h : WR w b B v l) (hl : 1048576 < l.length + s) (hl2 : l.length ≤ 1048576) (hs : s ≤ 8) :
    Calls Tryd.prog 61 #[.pointer (some ⟨b, 0, none⟩), .int .u64 n, .int .i64 s] w fun e w' => e = gaveUp 2 ∧ Below B w w' := by
  have H : Hid (WR w b B v l) := h
  clear h
  go_enter Tryd.func61, Tryd.ntmps61
  go_wp2_with fail
  go_loopw [6] (fun t6 wr => ∃ (j : Nat), j ≤ s ∧ t6 = .int .i64 ((j : Int) - 1) ∧ Hid (∃ v' m, WR wr b B v' (l ++ m) ∧ m.length + j = s ∧ l.length + m.length ≤ 1048576 ∧ Below B w wr)) (fun t6 _ => (intOf t6 + 1).toNat)
  case atStart => exact ⟨s, Nat.le_refl _, by go_num, ⟨v, [], by rw [List.append_nil]; exact H.out, by simp, by simpa using hl2, Below.refl _ _⟩⟩
  case round =>
    obtain ⟨j, hj, rfl, HI⟩ := hrel
    cases j with
    | zero =>
      exfalso
      obtain ⟨v', m, h1, h2, h3, h4⟩ := HI.out
      omega
    | succ j =>
      obtain ⟨v', m, h1, h2, h3, h4⟩ := HI.out
      obtain ⟨k, hk⟩ : ∃ k, k = 8 * j := ⟨_, rfl⟩
      have e8 : (8 : Int) * (j : Int) = (k : Int) := by omega
      have hk2 : k < 64 := by omega
      obtain ⟨q, hq⟩ : ∃ q, q = n / 2 ^ k := ⟨_, rfl⟩
      have hqi : (n : Int) / 2 ^ k = (q : Int) := by rw [hq]; simp
      obtain ⟨r, hr⟩ : ∃ r, r = q % 256 := ⟨_, rfl⟩
      have hqm : (q : Int) % 256 = (r : Int) := by omega
      have hj2 : j < 8 := by omega
      rw [show ((j + 1 : Nat) : Int) - 1 = (j : Int) by omega] at *
      by_cases c : l.length + m.length = 1048576
      · have hlay := lay_long b B r v' (l ++ m) wr h1 (by rw [List.length_append]; omega)
        have HB : Hid (Below B w wr) := h4
        clear h1 h2 h3 h4 hk hq hr
        go_wp2_with fail
        refine hlay.mono ?_
        rintro e w2 ⟨rfl, rfl⟩
        unfold gaveUp
        go_wp2
        exact ⟨rfl, rfl, HB.out⟩
      · have hlay := lay_ok b B r v' (l ++ m) wr h1 (by rw [List.length_append]; omega) (by omega)
        have HW : Hid (∀ v2 w2, WR w2 b B v2 (l ++ m ++ [r]) → Kept b v' v2 wr w2 → ∃ v' m, WR w2 b B v' (l ++ m) ∧ m.length + j = s ∧ l.length + m.length ≤ 1048576 ∧ Below B w w2) := by
          intro v2 w2 k1 k2
          exact ⟨v2, m ++ [r], by rw [← List.append_assoc]; exact k1, by rw [List.length_append]; simp; omega, by rw [List.length_append]; simp; omega, h4.trans (k2.below h1)⟩
        clear h1 h2 h3 h4 hk hq hr
        go_wp2_with fail
        refine hlay.mono ?_
        rintro e w2 ⟨rfl, v2, k1, k2⟩
        have HQ : Hid _ := HW.out v2 w2 k1 k2
        clear k1 k2 hlay
        go_wp2
        go_roundw
        case rel => exact ⟨j, by omega, by go_num, HQ⟩
        case measure => simp [intOf]

end Go.Proofs.YtjngknnkffbnmaaDoor
namespace Go.Proofs.YtjngknnkffbnmaaDoor
set_option maxRecDepth 100000
open Go.RowKit Crc

/-- A text's bytes. -/
def tx (s : ByteArray) : List Nat := s.data.toList.map UInt8.toNat

theorem tx_length (s : ByteArray) : (tx s).length = s.size := by unfold tx; simp
theorem tx_sm (s : ByteArray) : Sm8 (tx s) := by
  intro d hd
  unfold tx at hd
  obtain ⟨b, _, rfl⟩ := List.mem_map.mp hd
  exact b.toNat_lt
theorem tx_cells (s : ByteArray) : Lib.strCells s = c8 (tx s) := by unfold Lib.strCells c8 tx; simp

theorem run_append_text {P : Program} (w : World) (base : Nat) (t u ty e : TypeId) (i : TypeInfo) (ht : P.underlying t = some (.slice e)) (hu : P.underlying u = some .string) (hi : P.info? e = some i) (hz : i.zero = some (.int .u8 0))
    (hsize : i.size = 1) (hby : i.bytes = 1) (v : Value) (n : Nat) (xs : List Value) (hown : w.ownsRow base e 1 v n xs) (s : ByteArray) (h63 : n + s.size ≤ maxLen) (hbytes : n + s.size ≤ 140737488355328) (hbase : base ≤ w.heap.size) :
    ∃ v' w', (Builtin.append_ #[t, u] ty #[v, .string s]).run P w = .ok v' w' ∧ w'.ownsRow base e 1 v' (n + s.size) (xs ++ Lib.strCells s) ∧ w.grownBy w' v.ownBlock ∧ (∀ k, v'.ownBlock = some k → v.ownBlock = some k ∨ k = w.heap.size) := by
  obtain ⟨v', w', hr, h2, h3, h4⟩ := Lib.run_append_own_string (P := P) w base t u ty e i ht hu hi hz hsize hby v n xs hown s h63 hbytes hbase
  refine ⟨v', w', hr, h2, h3, ?_⟩
  intro k hk
  have hsm : n + s.size ≤ 9223372036854775807 := by simp only [maxLen] at h63; omega
  have hxl : xs.length = n := by simpa using hown.1
  rcases hown.2 with ⟨e1, e2⟩ | ⟨g, cap, cur, e1, hbg, hg, hnc, hcm, hcs, htake⟩
  · subst e1 e2
    by_cases hm : s.size = 0
    · have := h4.mpr ⟨rfl, hm⟩
      subst this
      simp [Value.ownBlock] at hk
    · have hr2 := run_append_nil_string (P := P) w t u ty e i (.int .u8 0) ht hu hi hz s (by omega) (by omega) (by rw [hby]; omega)
      rw [hr2] at hr
      injection hr with e1 e2
      subst e1
      simp [Value.ownBlock] at hk
      exact Or.inr hk.symm
  · subst e1
    by_cases hroom : n + s.size ≤ cap
    · have hcs' : cur.size = cap := by simpa using hcs
      have hr2 := Lib.run_append_room_string (P := P) w t u ty e i ht hu hi hsize g n cap cur hg s hroom (by omega)
      rw [hr2] at hr
      injection hr with e1 e2
      subst e1
      exact Or.inl hk
    · have hr2 := Lib.run_append_grow_string (P := P) w t u ty e i (.int .u8 0) ht hu hi hz ⟨g, 0, none⟩ n cap xs (by rw [hsize]; simpa using hxl) (hown.cells (g := g) rfl) s (by omega) (by omega) (by rw [hby]; exact growslice_fits (by omega) (by omega))
      rw [hr2] at hr
      injection hr with e1 e2
      subst e1
      simp [Value.ownBlock] at hk
      exact Or.inr hk.symm

theorem step_append_text {P : Program} {ops : Array Oper} {o : Oper} {a : Act} {w : World} {K : Act → World → Prop} {Q : Exit → Act → World → Prop} {E : Prop} (hgd : o.guard = none) (sl x : Operand) (t u : TypeId)
    (ho : o.op = .call { callee := .builtin .append, args := #[sl, x], argTypes := #[t, u] })
    (base : Nat) (e : TypeId) (i : TypeInfo) (ht : P.underlying t = some (.slice e)) (hu : P.underlying u = some .string) (hi : P.info? e = some i) (hz : i.zero = some (.int .u8 0))
    (hsize : i.size = 1) (hby : i.bytes = 1)
    (v : Value) (n : Nat) (xs : List Value) (hs : a.eval sl = v) (hown : w.ownsRow base e 1 v n xs) (s : ByteArray) (hx : a.eval x = .string s)
    (h63 : n + s.size ≤ maxLen) (hbytes : n + s.size ≤ 140737488355328) (hbase : base ≤ w.heap.size)
    (h : ∀ v' w', w'.ownsRow base e 1 v' (n + s.size) (xs ++ Lib.strCells s) → w.grownBy w' v.ownBlock → (∀ k, v'.ownBlock = some k → v.ownBlock = some k ∨ k = w.heap.size) → K (a.put o.dst v') w') :
    if Region.wanted o (yielded ops a.tmps) = true then Oper.wp P o a w K Q else E := by
  have hw : Region.wanted o (yielded ops a.tmps) = true := by simp [Region.wanted, hgd]
  rw [if_pos hw]
  obtain ⟨v', w', hr, h2, h3, h4⟩ := run_append_text (P := P) w base t u o.type e i ht hu hi hz hsize hby v n xs hown s h63 hbytes hbase
  unfold Oper.wp
  simp [execOp, ho, resolve, invoke, builtin, hs, hx, hr, Result.andThen]
  exact h v' w' h2 h3 h4

/-- What is laid behind and then noted in the writer's block is the writer's again. -/
theorem WR.more {w w2 : World} {b B : Nat} {v v' : Value} {l m : List Nat} (h : WR w b B v l) (hm : Sm8 m)
    (hown : w2.ownsRow B 5 1 v' (l.length + m.length) (c8 l ++ c8 m)) (hgrow : w.grownBy w2 v.ownBlock) (hat : ∀ k, v'.ownBlock = some k → v.ownBlock = some k ∨ k = w.heap.size) :
    w2.cell? ⟨b, 0, none⟩ = some v ∧ w2.frozen? ⟨b, 0, none⟩ = false ∧ WR (w2.setCell ⟨b, 0, none⟩ v') b B v' (l ++ m) ∧ Kept b v v' w (w2.setCell ⟨b, 0, none⟩ v') := by
  have hlt := h.lt
  have hlo := h.lo
  have hbb : w2.heap[b]? = w.heap[b]? := hgrow.block b hlt (fun e => h.ne b e.symm rfl)
  have hc2 : w2.cell? ⟨b, 0, none⟩ = some v := by
    have := h.c
    unfold World.cell? at this ⊢
    simpa [hbb] using this
  have hf2 : ∀ i, w2.frozen? ⟨b, i, none⟩ = false := by
    intro i
    have := h.fz i
    unfold World.frozen? at this ⊢
    simpa [hbb] using this
  have hsz := hgrow.size
  have hb2 : Below B w w2 := (Below.refl B w).grown hgrow (by omega) (fun k hk => (h.ow.2.lt k hk).1)
  have hne : ∀ k, v'.ownBlock = some k → k ≠ b := by
    intro k hk e
    rcases hat k hk with e1 | e1
    · exact h.ne k e1 e
    · omega
  refine ⟨hc2, hf2 0, ⟨World.cell?_setCell_same _ _ _ hc2, fun i => by rw [World.frozen?_setCell]; exact hf2 i, ⟨h.ow.1.append hm, ?_⟩, hlo, by rw [World.size_setCell]; omega, hne⟩, ?_⟩
  rotate_left
  · refine ⟨hb2.os, hb2.tape, hb2.output, by rw [World.size_setCell]; omega, fun k hk hb hv => ?_, fun k hk => ?_⟩
    · rw [heap_setCell_other _ _ _ _ hb, hgrow.block k hk (fun e => hv e.symm)]
    · rcases hat k hk with e | e
      · exact Or.inl e
      · exact Or.inr (by omega)
  rw [c8_append, List.length_append]
  cases e : v'.ownBlock with
  | none =>
    obtain ⟨l1, l2⟩ := hown
    refine ⟨l1, ?_⟩
    rcases l2 with l2 | ⟨g, cap, cur, rfl, _⟩
    · exact Or.inl l2
    · simp [Value.ownBlock] at e
  | some g0 => exact ownsRow_far hown (heap_setCell_other _ _ _ _ (hne g0 e)) e

end Go.Proofs.YtjngknnkffbnmaaDoor
namespace Go.Proofs.YtjngknnkffbnmaaDoor
set_option maxRecDepth 100000
open Go.RowKit Crc

structure Tr where
  mk ::
  k : Int
  n : Nat
  s : ByteArray
  l : List Tr

/-- What goes from the parts of each tree to it holds of all. -/
theorem Tr.ind {P : Tr → Prop} {Q : List Tr → Prop} (h1 : ∀ k n s ts, Q ts → P (.mk k n s ts)) (h2 : Q []) (h3 : ∀ t ts, P t → Q ts → Q (t :: ts)) : (∀ t, P t) ∧ ∀ ts, Q ts := by
  have h4 : ∀ t, P t := fun t => Tr.rec (motive_1 := P) (motive_2 := Q) h1 h2 h3 t
  refine ⟨h4, fun ts => ?_⟩
  induction ts with
  | nil => exact h2
  | cons t ts ih => exact h3 t ts (h4 t) ih

/-- The four cells at the place i of a slice that begins at o in the block g. -/
structure Lies (w : World) (g o i : Nat) (k : Int) (n : Nat) (s : ByteArray) (u : Value) : Prop where
  c0 : w.cell? ⟨g, o + i * 4, none⟩ = some (.int .i64 k)
  c1 : w.cell? ⟨g, o + i * 4 + 1, none⟩ = some (.int .u64 n)
  c2 : w.cell? ⟨g, o + i * 4 + 2, none⟩ = some (.string s)
  c3 : w.cell? ⟨g, o + i * 4 + 3, none⟩ = some u

def cellV (k : Int) (n : Nat) (s : ByteArray) (u : Value) : Value := .agg #[.int .i64 k, .int .u64 n, .string s, u]

/-- The value v reads as the tree. -/
def CR (w : World) (t : Tr) (v : Value) : Prop :=
  ∀ P : Tr → Value → Prop, (∀ (k : Int) (n : Nat) (s : ByteArray) (ts : List Tr) (a : Option Addr) (cap : Nat) (ks : Nat → Int) (ns : Nat → Nat) (ss : Nat → ByteArray) (us : Nat → Value)
      (hk : -9223372036854775808 ≤ k ∧ k ≤ 9223372036854775807) (hn : n < 18446744073709551616) (hs : s.size ≤ 9223372036854775807) (hl : ts.length ≤ cap) (hc : cap ≤ 9223372036854775807) (h0 : a = none → ts = [])
      (hx : ∀ x i, a = some x → i < ts.length → x.spot = none ∧ Lies w x.block x.off i (ks i) (ns i) (ss i) (us i))
      (_ : ∀ i (h : i < ts.length), P ts[i] (cellV (ks i) (ns i) (ss i) (us i))), P (.mk k n s ts) (cellV k n s (.slice a ts.length cap))) → P t v

theorem CR.mk {w : World} (k : Int) (n : Nat) (s : ByteArray) (ts : List Tr) (a : Option Addr) (cap : Nat) (ks : Nat → Int) (ns : Nat → Nat) (ss : Nat → ByteArray) (us : Nat → Value)
      (hk : -9223372036854775808 ≤ k ∧ k ≤ 9223372036854775807) (hn : n < 18446744073709551616) (hs : s.size ≤ 9223372036854775807) (hl : ts.length ≤ cap) (hc : cap ≤ 9223372036854775807) (h0 : a = none → ts = [])
      (hx : ∀ x i, a = some x → i < ts.length → x.spot = none ∧ Lies w x.block x.off i (ks i) (ns i) (ss i) (us i))
      (hr : ∀ i (h : i < ts.length), CR w ts[i] (cellV (ks i) (ns i) (ss i) (us i))) : CR w (.mk k n s ts) (cellV k n s (.slice a ts.length cap)) :=
  fun P hP => hP k n s ts a cap ks ns ss us hk hn hs hl hc h0 hx (fun i h => hr i h P hP)

theorem CR.ind {w : World} {motive : ∀ t v, CR w t v → Prop} (mk : ∀ (k : Int) (n : Nat) (s : ByteArray) (ts : List Tr) (a : Option Addr) (cap : Nat) (ks : Nat → Int) (ns : Nat → Nat) (ss : Nat → ByteArray) (us : Nat → Value)
      (hk : -9223372036854775808 ≤ k ∧ k ≤ 9223372036854775807) (hn : n < 18446744073709551616) (hs : s.size ≤ 9223372036854775807) (hl : ts.length ≤ cap) (hc : cap ≤ 9223372036854775807) (h0 : a = none → ts = [])
      (hx : ∀ x i, a = some x → i < ts.length → x.spot = none ∧ Lies w x.block x.off i (ks i) (ns i) (ss i) (us i))
      (hr : ∀ i (h : i < ts.length), CR w ts[i] (cellV (ks i) (ns i) (ss i) (us i))) (_ : ∀ i (h : i < ts.length), motive ts[i] (cellV (ks i) (ns i) (ss i) (us i)) (hr i h)), motive (.mk k n s ts) (cellV k n s (.slice a ts.length cap)) (CR.mk k n s ts a cap ks ns ss us hk hn hs hl hc h0 hx hr)) {t : Tr} {v : Value} (h : CR w t v) : motive t v h := by
  have key : ∃ h' : CR w t v, motive t v h' := h (fun t v => ∃ h', motive t v h') (fun k n s ts a cap ks ns ss us hk hn hs hl hc h0 hx hr => ⟨CR.mk k n s ts a cap ks ns ss us hk hn hs hl hc h0 hx (fun i h => (hr i h).elim (fun a _ => a)), mk k n s ts a cap ks ns ss us hk hn hs hl hc h0 hx (fun i h => (hr i h).elim (fun a _ => a)) (fun i h => (hr i h).elim (fun _ b => b))⟩)
  exact key.elim (fun _ b => b)

theorem CR.elim {w : World} {motive : ∀ t v, CR w t v → Prop} (mk : ∀ (k : Int) (n : Nat) (s : ByteArray) (ts : List Tr) (a : Option Addr) (cap : Nat) (ks : Nat → Int) (ns : Nat → Nat) (ss : Nat → ByteArray) (us : Nat → Value)
      (hk : -9223372036854775808 ≤ k ∧ k ≤ 9223372036854775807) (hn : n < 18446744073709551616) (hs : s.size ≤ 9223372036854775807) (hl : ts.length ≤ cap) (hc : cap ≤ 9223372036854775807) (h0 : a = none → ts = [])
      (hx : ∀ x i, a = some x → i < ts.length → x.spot = none ∧ Lies w x.block x.off i (ks i) (ns i) (ss i) (us i))
      (hr : ∀ i (h : i < ts.length), CR w ts[i] (cellV (ks i) (ns i) (ss i) (us i))), motive (.mk k n s ts) (cellV k n s (.slice a ts.length cap)) (CR.mk k n s ts a cap ks ns ss us hk hn hs hl hc h0 hx hr)) {t : Tr} {v : Value} (h : CR w t v) : motive t v h :=
  CR.ind (fun k n s ts a cap ks ns ss us hk hn hs hl hc h0 hx hr _ => mk k n s ts a cap ks ns ss us hk hn hs hl hc h0 hx hr) h

theorem cell_kept {w w' : World} {B : Nat} (hg : Below B w w') (hB : w.heap.size ≤ B) {x : Addr} {u : Value} (h : w.cell? x = some u) : w'.cell? x = some u := by
  have hb : x.block < w.heap.size := by
    rcases Nat.lt_or_ge x.block w.heap.size with h1 | h1
    · exact h1
    · exfalso
      unfold World.cell? at h
      rw [Array.getElem?_eq_none h1] at h
      simp at h
  have e := hg.block x.block (by omega)
  unfold World.cell? at h ⊢
  rw [e]; exact h

theorem Lies.below {w w' : World} {B g o i : Nat} {k : Int} {n : Nat} {s : ByteArray} {u : Value} (h : Lies w g o i k n s u) (hg : Below B w w') (hB : w.heap.size ≤ B) : Lies w' g o i k n s u :=
  ⟨cell_kept hg hB h.c0, cell_kept hg hB h.c1, cell_kept hg hB h.c2, cell_kept hg hB h.c3⟩

theorem CR.kept {w w' : World} {B : Nat} {t : Tr} {v : Value} (h : CR w t v) (hg : Below B w w') (hB : w.heap.size ≤ B) : CR w' t v := by
  induction h using CR.ind with
  | mk k n s ts a cap ks ns ss us hk hn hs hl hc h0 hx hr ih =>
    exact CR.mk k n s ts a cap ks ns ss us hk hn hs hl hc h0 (fun x i e hi => ⟨(hx x i e hi).1, (hx x i e hi).2.below hg hB⟩) ih

end Go.Proofs.YtjngknnkffbnmaaDoor
namespace Go.Proofs.YtjngknnkffbnmaaDoor
set_option maxRecDepth 100000
open Go.RowKit Crc

def Tr.cnt : Tr → Nat
  | .mk _ _ _ l => 1 + (l.map Tr.cnt).sum
def cnts (l : List Tr) : Nat := (l.map Tr.cnt).sum
theorem Tr.cnt_mk (k : Int) (n : Nat) (s : ByteArray) (l : List Tr) : (Tr.mk k n s l).cnt = 1 + cnts l := by rw [Tr.cnt]; rfl
theorem cnts_nil : cnts [] = 0 := rfl
theorem cnts_cons (t : Tr) (l : List Tr) : cnts (t :: l) = t.cnt + cnts l := by unfold cnts; simp

def Tr.dep : Tr → Nat
  | .mk _ _ _ l => (l.map (fun t => t.dep + 1)).foldr max 0
def deps (l : List Tr) : Nat := (l.map (fun t => t.dep + 1)).foldr max 0
theorem Tr.dep_mk (k : Int) (n : Nat) (s : ByteArray) (l : List Tr) : (Tr.mk k n s l).dep = deps l := by rw [Tr.dep]; rfl
theorem deps_nil : deps [] = 0 := rfl
theorem deps_cons (t : Tr) (l : List Tr) : deps (t :: l) = max (t.dep + 1) (deps l) := rfl

theorem cnts_append (l m : List Tr) : cnts (l ++ m) = cnts l + cnts m := by
  induction l with
  | nil => simp [cnts_nil]
  | cons t l ih => simp only [List.cons_append, cnts_cons, ih]; omega
theorem deps_append (l m : List Tr) : deps (l ++ m) = max (deps l) (deps m) := by
  induction l with
  | nil => simp [deps_nil]
  | cons t l ih => simp only [List.cons_append, deps_cons, ih]; omega
theorem cnts_take (l : List Tr) (i : Nat) (h : i < l.length) : cnts (l.take (i + 1)) = cnts (l.take i) + l[i].cnt := by
  rw [List.take_succ_eq_append_getElem h, cnts_append]; simp [cnts_cons, cnts_nil]
theorem deps_take (l : List Tr) (i : Nat) (h : i < l.length) : deps (l.take (i + 1)) = max (deps (l.take i)) (l[i].dep + 1) := by
  rw [List.take_succ_eq_append_getElem h, deps_append]; simp [deps_cons, deps_nil]
theorem cnt_pos (t : Tr) : 1 ≤ t.cnt := by cases t; rw [Tr.cnt_mk]; omega

/-- What Small tells. -/
def Told (t : Tr) (most : Int) (D n : Nat) (ok : Bool) : Prop := 1 ≤ n ∧ (n : Int) ≤ max most 0 + D + 1 ∧ (ok = true → n = t.cnt ∧ t.dep + 1 ≤ D ∧ (n = 1 ∨ (n : Int) ≤ most))

set_option maxHeartbeats 2000000 in
theorem small_any : ∀ (D : Nat), D ≤ 101 → ∀ (t : Tr) (v : Value) (w : World) (most : Int), CR w t v → (D : Int) - 1000 ≤ most → most ≤ 1000000 →
    Calls Tryd.prog 25 #[v, .int .i64 most, .int .i64 (101 - (D : Int))] w fun e w' => ∃ (n : Nat) (ok : Bool), e = .returned (.tuple #[.int .i64 n, .bool ok]) ∧ Told t most D n ok ∧ Below w.heap.size w w' := by
  intro D
  induction D with
  | zero =>
    intro _ t v w most h hm1 hm2
    cases h using CR.elim with
    | mk k n s ts a cap ks ns ss us hk hn hs hl hc h0 hx hr =>
    unfold cellV
    clear hr hx
    rw [show (101 : Int) - ((0 : Nat) : Int) = 101 by omega]
    go_enter Tryd.func25, Tryd.ntmps25
    go_wp2
    go_ret2
    exact ⟨1, false, rfl, ⟨by omega, by omega, by intro e; cases e⟩, (Below.refl _ _).alloc (Nat.le_refl _) _⟩
  | succ D ih =>
    intro hD t v w most h hm1 hm2
    cases h using CR.elim with
    | mk k n s ts a cap ks ns ss us hk hn hs hl hc h0 hx hr =>
    unfold cellV
    rw [show (101 : Int) - ((D + 1 : Nat) : Int) = 100 - (D : Int) by omega]
    have hd1 : ¬ (100 : Int) - (D : Int) > 100 := by omega
    have HR : Hid (∀ i (h : i < ts.length), CR w ts[i] (cellV (ks i) (ns i) (ss i) (us i))) := hr
    have HX : Hid (∀ x i, a = some x → i < ts.length → x.spot = none ∧ Lies w x.block x.off i (ks i) (ns i) (ss i) (us i)) := hx
    have HI : Hid _ := ih
    have H0 : Hid (a = none → ts = []) := h0
    clear hr hx ih h0
    obtain ⟨N, hN⟩ : ∃ N, N = ts.length := ⟨_, rfl⟩
    have HN : Hid (N = ts.length) := hN
    rw [← hN] at hl ⊢
    clear hN
    go_enter Tryd.func25, Tryd.ntmps25
    go_wp2_with fail
    go_loopw [8, 9] (fun t8 t9 wr => ∃ (i m : Nat), i ≤ N ∧ t9 = .int .i64 i ∧ t8 = .int .i64 m ∧ m ≤ 2000000 ∧ Hid (m = 1 + cnts (ts.take i) ∧ deps (ts.take i) ≤ D ∧ (m = 1 ∨ (m : Int) ≤ most)) ∧ Hid (Below (w.heap.size + 1) (w.alloc (.cells #[.int .i64 k, .int .u64 n, .string s, .slice a N cap] 26)) wr)) (fun _ t9 _ => N - (intOf t9).toNat)
    case atStart => exact ⟨0, 1, Nat.zero_le _, rfl, rfl, by decide, by show _ ∧ _; simp [cnts_nil, deps_nil], Below.refl _ _⟩
    case round =>
      obtain ⟨i, m, hi, rfl, rfl, hm, HC, HB⟩ := hrel
      have hbox : wr.cell? ⟨w.heap.size, 3, none⟩ = some (.slice a N cap) := cell_kept HB.out (by simp) (by simp)
      by_cases c : i < N
      · have hts : i < ts.length := by rw [← HN.out]; exact c
        obtain ⟨x, hx⟩ : ∃ x, a = some x := by
          cases a with
          | some x => exact ⟨x, rfl⟩
          | none => rw [H0.out rfl] at hts; exact absurd hts (by simp)
        subst hx
        have hbw : Below w.heap.size w wr := ((Below.refl _ w).alloc (Nat.le_refl _) _).trans (HB.out.mono (by omega))
        obtain ⟨hsp, hli0⟩ := HX.out x i rfl hts
        obtain ⟨g, o, sp⟩ := x
        simp only at hsp
        subst hsp
        have hli := hli0.below hbw (Nat.le_refl _)
        clear hli0
        have hm3 : (m : Int) ≤ 1000000 := by have := HC.out; omega
        have hm4 : (D : Int) - 1000 ≤ most - (m : Int) := by have := HC.out; omega
        have hcall := HI.out (by omega) ts[i] _ wr (most - (m : Int)) ((HR.out i hts).kept hbw (Nat.le_refl _)) (by omega) (by omega)
        unfold cellV at hcall
        rw [show (101 : Int) - (D : Int) = 100 - (D : Int) + 1 by omega] at hcall
        obtain ⟨l0, l1, l2, l3⟩ := hli
        have HBW : Hid (Below w.heap.size w wr) := hbw
        clear hbw
        go_wp2_with fail
        refine hcall.mono ?_
        rintro e w2 ⟨m2, ok, rfl, hT, hb2⟩
        have hz := HB.out.size
        have HB2 : Hid (Below w.heap.size w w2) := Below.then HBW.out hb2
        have HB3 : Hid (Below (w.heap.size + 1) (w.alloc (.cells #[.int .i64 k, .int .u64 n, .string s, .slice (some ⟨g, o, none⟩) N cap] 26)) w2) := HB.out.trans (hb2.mono (by simpa using hz))
        obtain ⟨T1, T2, T3⟩ := hT
        have hm5 : (m2 : Int) ≤ 1000000 + 102 := by omega
        have HT : Hid (∀ t, Told t most (D + 1) (m + m2) false) := fun t => ⟨by omega, by have := HC.out; omega, by intro e; cases e⟩
        clear hb2 hcall l0 l1 l2 l3 hz T2
        cases ok with
        | false =>
          clear T3
          go_wp2
          go_ret2
          exact ⟨m + m2, false, by simp, HT.out _, HB2.out⟩
        | true =>
          have T4 := T3 rfl
          clear T3
          by_cases c2 : (m : Int) + (m2 : Int) > most
          · clear T4
            go_wp2
            go_ret2
            exact ⟨m + m2, false, by simp, HT.out _, HB2.out⟩
          · have HK : Hid (m + m2 = 1 + cnts (ts.take (i + 1)) ∧ deps (ts.take (i + 1)) ≤ D ∧ (m + m2 = 1 ∨ ((m + m2 : Nat) : Int) ≤ most)) := by
              have := HC.out
              refine ⟨?_, ?_, Or.inr (by omega)⟩
              · rw [cnts_take ts i hts]; omega
              · rw [deps_take ts i hts]; omega
            clear T4
            go_wp2
            go_roundw
            case rel => exact ⟨i + 1, m + m2, by omega, by go_num, by go_num, by omega, HK, HB3⟩
            case measure => simp [intOf]; omega
      · have e : i = N := by omega
        subst e
        go_wp2
        go_ret2
        have q := HC.out
        have hd : deps (ts.take i) ≤ D := q.2.1
        rw [HN.out, List.take_length] at q
        refine ⟨m, true, rfl, ⟨by omega, by omega, fun _ => ⟨by rw [Tr.cnt_mk]; exact q.1, by rw [Tr.dep_mk]; have := q.2.1; omega, q.2.2⟩⟩, ((Below.refl _ w).alloc (Nat.le_refl _) _).trans (HB.out.mono (by omega))⟩

end Go.Proofs.YtjngknnkffbnmaaDoor
namespace Go.Proofs.YtjngknnkffbnmaaDoor
set_option maxRecDepth 100000
open Go.RowKit Crc

theorem info25 : (Tryd.prog.info? 26).map (fun i => i.size) = some 4 := by kernel_rfl

set_option maxHeartbeats 400000 in
theorem cnumber_any (n : Nat) (w : World) :
    Calls Tryd.prog 27 #[.int .u64 n] w fun e w' => e = .returned (cellV 0 n ⟨#[]⟩ (.slice none 0 0)) ∧ Below w.heap.size w w' := by
  go_enter Tryd.func27, Tryd.ntmps27
  go_wp2
  refine bodyPost_ret (results_cell_row rfl _ _ w.heap.size _ _ _ _ rfl (heap_alloc_new _ _) Tryd.underlying26 rfl info25) rfl ⟨rfl, (Below.refl _ _).alloc (Nat.le_refl _) _⟩

set_option maxHeartbeats 400000 in
theorem rfnumber_any (n : Nat) (w : World) :
    Calls Tryd.prog 32 #[.int .u64 n] w fun e w' => e = .returned (cellV 0 n ⟨#[]⟩ (.slice none 0 0)) ∧ Below w.heap.size w w' := by
  go_enter Tryd.func32, Tryd.ntmps32
  go_wp2
  refine bodyPost_ret (results_cell_row rfl _ _ w.heap.size _ _ _ _ rfl (heap_alloc_new _ _) Tryd.underlying26 rfl info25) rfl ⟨rfl, (Below.refl _ _).alloc (Nat.le_refl _) _⟩

set_option maxHeartbeats 400000 in
theorem ctext_any (s : ByteArray) (w : World) :
    Calls Tryd.prog 43 #[.string s] w fun e w' => e = .returned (cellV 1 0 s (.slice none 0 0)) ∧ Below w.heap.size w w' := by
  go_enter Tryd.func43, Tryd.ntmps43
  go_wp2
  refine bodyPost_ret (results_cell_row rfl _ _ w.heap.size _ _ _ _ rfl (heap_alloc_new _ _) Tryd.underlying26 rfl info25) rfl ⟨rfl, (Below.refl _ _).alloc (Nat.le_refl _) _⟩

set_option maxHeartbeats 400000 in
theorem rftext_any (s : ByteArray) (w : World) :
    Calls Tryd.prog 44 #[.string s] w fun e w' => e = .returned (cellV 1 0 s (.slice none 0 0)) ∧ Below w.heap.size w w' := by
  go_enter Tryd.func44, Tryd.ntmps44
  go_wp2
  refine bodyPost_ret (results_cell_row rfl _ _ w.heap.size _ _ _ _ rfl (heap_alloc_new _ _) Tryd.underlying26 rfl info25) rfl ⟨rfl, (Below.refl _ _).alloc (Nat.le_refl _) _⟩

set_option maxHeartbeats 400000 in
theorem rflist_any (a : Option Addr) (n cap : Nat) (w : World) :
    Calls Tryd.prog 31 #[.slice a n cap] w fun e w' => e = .returned (cellV 2 0 ⟨#[]⟩ (.slice a n cap)) ∧ Below w.heap.size w w' := by
  go_enter Tryd.func31, Tryd.ntmps31
  go_wp2
  refine bodyPost_ret (results_cell_row rfl _ _ w.heap.size _ _ _ _ rfl (heap_alloc_new _ _) Tryd.underlying26 rfl info25) rfl ⟨rfl, (Below.refl _ _).alloc (Nat.le_refl _) _⟩

end Go.Proofs.YtjngknnkffbnmaaDoor
namespace Go.Proofs.YtjngknnkffbnmaaDoor
set_option maxRecDepth 100000
open Go.RowKit Crc

/-- A world in which all that was there is as it was. -/
structure BelowOf (w : World) where
  u : World
  h : Below w.heap.size w u

theorem below_drewN {B : Nat} {a w : World} (h : Below B a w) (n : Nat) : Below B a (w.drewN n) := ⟨h.os, h.tape, h.output, h.size, h.block⟩

theorem wp_region_below {P : Program} {id : Nat} {Q : Exit → Act → World → Prop} {a : Act} {w : World} {l : List Oper} (hm : P.follows .mixedOrders = true) (hB : Region.lexB .any l.toArray = true)
    (h : wpQuiet P l.toArray (fun w' => ∃ p : BelowOf w, w' = p.u) (fun a' => ∀ w', (∃ p : BelowOf w, w' = p.u) → Q .normal a' w') l a) : (Code.region id l.toArray true).wp P Q a w :=
  wp_region_quiet (C := fun w' => ∃ p : BelowOf w, w' = p.u) hm hB ⟨⟨w.drewN 1, below_drewN (Below.refl _ _) 1⟩, rfl⟩ (by simpa using h)

/-- A callee's contract, met in a world of the class. -/
theorem below_of {P : Program} {f : FuncId} {args : Array Value} {w : World} {p : BelowOf w} {v : Value}
    (h : Calls P f args p.u fun e w' => e = .returned v ∧ Below p.u.heap.size p.u w') : Calls P f args p.u fun e w'' => e = .returned v ∧ ∃ p' : BelowOf w, w'' = p'.u :=
  h.mono fun _ w' ⟨he, hb⟩ => ⟨he, ⟨⟨w', p.h.trans (hb.mono p.h.size)⟩, rfl⟩⟩

def all2 : (l : List Tr) → (∀ t, t ∈ l → Tr → Bool) → List Tr → Bool
  | [], _, [] => true
  | t :: l, f, u :: m => f t List.mem_cons_self u && all2 l (fun t h => f t (List.mem_cons_of_mem _ h)) m
  | _ :: _, _, [] => false
  | [], _, _ :: _ => false
def sameT : Tr → Tr → Bool
  | .mk k n s l, .mk k' n' s' l' => if k ≠ k' then false else if k = 0 then decide (n = n') else if k = 1 then s.toList == s'.toList else if k = 2 then all2 l (fun t _ u => sameT t u) l' else true
def sameL (l m : List Tr) : Bool := all2 l (fun t _ u => sameT t u) m
theorem sameT_mk (k : Int) (n : Nat) (s : ByteArray) (l : List Tr) (k' : Int) (n' : Nat) (s' : ByteArray) (l' : List Tr) : sameT (.mk k n s l) (.mk k' n' s' l') = if k ≠ k' then false else if k = 0 then decide (n = n') else if k = 1 then s.toList == s'.toList else if k = 2 then sameL l l' else true := by rw [sameT]; rfl
theorem sameL_nn : sameL [] [] = true := rfl
theorem sameL_nc (u : Tr) (m : List Tr) : sameL [] (u :: m) = false := rfl
theorem sameL_cn (t : Tr) (l : List Tr) : sameL (t :: l) [] = false := rfl
theorem sameL_cc (t u : Tr) (l m : List Tr) : sameL (t :: l) (u :: m) = (sameT t u && sameL l m) := rfl

theorem sameL_length : ∀ {l m : List Tr}, l.length ≠ m.length → sameL l m = false
  | [], [], h => absurd rfl h
  | [], _ :: _, _ => rfl
  | _ :: _, [], _ => rfl
  | a :: l, b :: m, h => by
    rw [sameL_cc]
    rw [sameL_length (l := l) (m := m) (by simpa using h)]
    simp

theorem sameL_at : ∀ {l m : List Tr} (i : Nat) (h1 : i < l.length) (h2 : i < m.length), sameT l[i] m[i] = false → sameL l m = false
  | a :: l, b :: m, 0, _, _, h => by rw [sameL_cc]; simp at h; rw [h]; simp
  | a :: l, b :: m, i + 1, h1, h2, h => by
    rw [sameL_cc]
    rw [sameL_at (l := l) (m := m) i (by simpa using h1) (by simpa using h2) (by simpa using h)]
    simp

theorem sameL_all : ∀ {l m : List Tr}, l.length = m.length → (∀ i (h1 : i < l.length) (h2 : i < m.length), sameT l[i] m[i] = true) → sameL l m = true
  | [], [], _, _ => rfl
  | a :: l, b :: m, e, h => by
    rw [sameL_cc]
    have h0 := h 0 (by simp) (by simp)
    simp at h0
    rw [h0, sameL_all (l := l) (m := m) (by simpa using e) (fun i h1 h2 => by have := h (i + 1) (by simpa using h1) (by simpa using h2); simpa using this)]
    rfl

theorem deps_get : ∀ {l : List Tr} (i : Nat) (h : i < l.length), l[i].dep + 1 ≤ deps l
  | a :: l, 0, _ => by rw [deps_cons]; simp; omega
  | a :: l, i + 1, h => by
    have := deps_get (l := l) i (by simpa using h)
    rw [deps_cons]; simp; omega

set_option maxHeartbeats 2000000 in
theorem same_any : ∀ (D : Nat) (t t' : Tr) (v v' : Value) (w : World), t.dep < D → CR w t v → CR w t' v' →
    Calls Tryd.prog 19 #[v, v'] w fun e w' => e = .returned (.bool (sameT t t')) ∧ Below w.heap.size w w' := by
  intro D
  induction D with
  | zero => intro t t' v v' w h; omega
  | succ D ih =>
    intro t t' v v' w hD h h'
    cases h using CR.elim with
    | mk k n s ts a cap ks ns ss us hk hn hs hl hc h0 hx hr =>
    cases h' using CR.elim with
    | mk k' n' s' ts' a' cap' ks' ns' ss' us' hk' hn' hs' hl' hc' h0' hx' hr' =>
    unfold cellV
    have HB : Hid (∀ o o' : Obj, Below w.heap.size w ((w.alloc o).alloc o')) := fun o o' => ((Below.refl _ w).alloc (Nat.le_refl _) o).alloc (by simp) o'
    by_cases c0 : k = k'
    · subst c0
      by_cases c1 : k = 0
      · have HS : Hid (sameT (.mk k n s ts) (.mk k n' s' ts') = ((n : Int) == (n' : Int))) := by
          show _ = _
          by_cases e : n = n'
          · simp [sameT_mk, c1, e]
          · have : ¬ (n : Int) = (n' : Int) := by omega
            simp [sameT_mk, c1, e, this]
        subst c1
        clear hx hr hx' hr' h0 h0'
        go_enter Tryd.func19, Tryd.ntmps19
        go_wp2
        go_ret
        exact ⟨by rw [HS.out]; rfl, HB.out _ _⟩
      · by_cases c2 : k = 1
        · have HS : Hid (sameT (.mk k n s ts) (.mk k n' s' ts') = (s.toList == s'.toList)) := by
            show _ = _
            simp [sameT_mk, c2]
          subst c2
          clear hx hr hx' hr' h0 h0'
          go_enter Tryd.func19, Tryd.ntmps19
          go_wp2
          go_ret
          refine ⟨?_, HB.out _ _⟩
          rw [HS.out]
          rfl
        · by_cases c3 : k = 2
          · by_cases c4 : ts.length = ts'.length
            · obtain ⟨N, hN⟩ : ∃ N, N = ts.length := ⟨_, rfl⟩
              have HN : Hid (N = ts.length ∧ N = ts'.length) := ⟨hN, by omega⟩
              have HS : Hid (sameT (.mk k n s ts) (.mk k n' s' ts') = sameL ts ts') := by
                show _ = _
                simp [sameT_mk, c3]
              have HD : Hid (deps ts < D + 1) := by rw [Tr.dep_mk] at hD; exact hD
              have HR : Hid (∀ i (h : i < ts.length), CR w ts[i] (cellV (ks i) (ns i) (ss i) (us i))) := hr
              have HX : Hid (∀ x i, a = some x → i < ts.length → x.spot = none ∧ Lies w x.block x.off i (ks i) (ns i) (ss i) (us i)) := hx
              have H0 : Hid (a = none → ts = []) := h0
              have HR' : Hid (∀ i (h : i < ts'.length), CR w ts'[i] (cellV (ks' i) (ns' i) (ss' i) (us' i))) := hr'
              have HX' : Hid (∀ x i, a' = some x → i < ts'.length → x.spot = none ∧ Lies w x.block x.off i (ks' i) (ns' i) (ss' i) (us' i)) := hx'
              have H0' : Hid (a' = none → ts' = []) := h0'
              have HI : Hid _ := ih
              rw [← c4, ← hN]
              rw [← c4, ← hN] at hl'
              rw [← hN] at hl
              subst c3
              clear hr hx h0 hr' hx' h0' ih hD hN c1 c2 c4
              go_enter Tryd.func19, Tryd.ntmps19
              go_wp2_with fail
              go_loopw [5] (fun t5 wr => ∃ (i : Nat), i ≤ N ∧ t5 = .int .i64 i ∧ Hid (∀ j (h1 : j < ts.length) (h2 : j < ts'.length), j < i → sameT ts[j] ts'[j] = true) ∧ Hid (Below (w.heap.size + 2) ((w.alloc (.cells #[.int .i64 2, .int .u64 n, .string s, .slice a N cap] 26)).alloc (.cells #[.int .i64 2, .int .u64 n', .string s', .slice a' N cap'] 26)) wr)) (fun t5 _ => N - (intOf t5).toNat)
              case atStart => exact ⟨0, Nat.zero_le _, rfl, fun j _ _ h => absurd h (Nat.not_lt_zero _), Below.refl _ _⟩
              case round =>
                obtain ⟨i, hi, rfl, HJ, HW⟩ := hrel
                have b0 : wr.cell? ⟨w.heap.size, 3, none⟩ = some (.slice a N cap) := cell_kept HW.out (by simp) (by simp)
                have b1 : wr.cell? ⟨w.heap.size + 1, 3, none⟩ = some (.slice a' N cap') := cell_kept HW.out (by simp) (by simp)
                have HBW : Hid (Below w.heap.size w wr) := (HB.out _ _).trans (HW.out.mono (by omega))
                by_cases c : i < N
                · have i1 : i < ts.length := by have := HN.out; omega
                  have i2 : i < ts'.length := by have := HN.out; omega
                  obtain ⟨x, hx⟩ : ∃ x, a = some x := by
                    cases a with
                    | some x => exact ⟨x, rfl⟩
                    | none => rw [H0.out rfl] at i1; exact absurd i1 (by simp)
                  subst hx
                  obtain ⟨x', hx'⟩ : ∃ x, a' = some x := by
                    cases a' with
                    | some x => exact ⟨x, rfl⟩
                    | none => rw [H0'.out rfl] at i2; exact absurd i2 (by simp)
                  subst hx'
                  obtain ⟨hsp, hli⟩ := HX.out x i rfl i1
                  obtain ⟨g, o, sp⟩ := x
                  simp only at hsp
                  subst hsp
                  obtain ⟨hsp, hli'⟩ := HX'.out x' i rfl i2
                  obtain ⟨g', o', sp⟩ := x'
                  simp only at hsp
                  subst hsp
                  have HPB : ∀ p : BelowOf wr, Below w.heap.size w p.u := fun p => Below.then HBW.out p.h
                  have p0 : ∀ p : BelowOf wr, p.u.cell? ⟨w.heap.size, 3, none⟩ = some (.slice (some ⟨g, o, none⟩) N cap) := fun p => cell_kept p.h (Nat.le_refl _) b0
                  have p1 : ∀ p : BelowOf wr, p.u.cell? ⟨w.heap.size + 1, 3, none⟩ = some (.slice (some ⟨g', o', none⟩) N cap') := fun p => cell_kept p.h (Nat.le_refl _) b1
                  have q0 : ∀ p : BelowOf wr, p.u.cell? ⟨g, o + i * 4, none⟩ = some (.int .i64 (ks i)) := fun p => cell_kept (HPB p) (Nat.le_refl _) hli.c0
                  have q1 : ∀ p : BelowOf wr, p.u.cell? ⟨g, o + i * 4 + 1, none⟩ = some (.int .u64 (ns i)) := fun p => cell_kept (HPB p) (Nat.le_refl _) hli.c1
                  have q2 : ∀ p : BelowOf wr, p.u.cell? ⟨g, o + i * 4 + 2, none⟩ = some (.string (ss i)) := fun p => cell_kept (HPB p) (Nat.le_refl _) hli.c2
                  have q3 : ∀ p : BelowOf wr, p.u.cell? ⟨g, o + i * 4 + 3, none⟩ = some (us i) := fun p => cell_kept (HPB p) (Nat.le_refl _) hli.c3
                  have r0 : ∀ p : BelowOf wr, p.u.cell? ⟨g', o' + i * 4, none⟩ = some (.int .i64 (ks' i)) := fun p => cell_kept (HPB p) (Nat.le_refl _) hli'.c0
                  have r1 : ∀ p : BelowOf wr, p.u.cell? ⟨g', o' + i * 4 + 1, none⟩ = some (.int .u64 (ns' i)) := fun p => cell_kept (HPB p) (Nat.le_refl _) hli'.c1
                  have r2 : ∀ p : BelowOf wr, p.u.cell? ⟨g', o' + i * 4 + 2, none⟩ = some (.string (ss' i)) := fun p => cell_kept (HPB p) (Nat.le_refl _) hli'.c2
                  have r3 : ∀ p : BelowOf wr, p.u.cell? ⟨g', o' + i * 4 + 3, none⟩ = some (us' i) := fun p => cell_kept (HPB p) (Nat.le_refl _) hli'.c3
                  have HC : Hid (∀ p : BelowOf wr, Calls Tryd.prog 19 #[.agg #[.int .i64 (ks i), .int .u64 (ns i), .string (ss i), us i], .agg #[.int .i64 (ks' i), .int .u64 (ns' i), .string (ss' i), us' i]] p.u fun e w' => e = .returned (.bool (sameT ts[i] ts'[i])) ∧ Below p.u.heap.size p.u w') :=
                    fun p => HI.out ts[i] ts'[i] _ _ p.u (by have := deps_get i i1; have := HD.out; omega) ((HR.out i i1).kept (HPB p) (Nat.le_refl _)) ((HR'.out i i2).kept (HPB p) (Nat.le_refl _))
                  have HF : Hid (sameT ts[i] ts'[i] = false → sameL ts ts' = false) := sameL_at i i1 i2
                  have HG : Hid (sameT ts[i] ts'[i] = true → ∀ j (h1 : j < ts.length) (h2 : j < ts'.length), j < i + 1 → sameT ts[j] ts'[j] = true) := by
                    intro e j h1 h2 hj
                    by_cases e2 : j = i
                    · subst e2; exact e
                    · exact HJ.out j h1 h2 (by omega)
                  generalize sameT ts[i] ts'[i] = z at *
                  have hInh : Inhabited (BelowOf wr) := ⟨⟨wr, Below.refl _ _⟩⟩
                  clear hli hli' HPB
                  go_wp2_with fail
                  refine wp_region_below (by kernel_rfl) (by kernel_rfl) ?_
                  repeat (quiet_step (fail))
                  quiet_step ((go_at_call 19; exact below_of (HC.out _)))
                  repeat (quiet_step (fail))
                  refine wpQuiet_nil ?_
                  intro wq hw'
                  obtain ⟨⟨w9, hwq⟩, hw''⟩ := hw'
                  subst hw''
                  have hsz := HW.out.size
                  have HQ : Hid (Below w.heap.size w wq) := Below.then HBW.out hwq
                  have HQ2 : Hid (Below (w.heap.size + 2) ((w.alloc (.cells #[.int .i64 2, .int .u64 n, .string s, .slice (some ⟨g, o, none⟩) N cap] 26)).alloc (.cells #[.int .i64 2, .int .u64 n', .string s', .slice (some ⟨g', o', none⟩) N cap'] 26)) wq) := HW.out.trans (hwq.mono (by simpa using hsz))
                  clear hsz hwq p0 p1 q0 q1 q2 q3 r0 r1 r2 r3
                  cases z with
                  | false =>
                    have HF2 : Hid (sameL ts ts' = false) := HF.out rfl
                    clear HF HG
                    go_wp2
                    go_ret
                    exact ⟨by rw [HS.out, HF2.out]; rfl, HQ.out⟩
                  | true =>
                    have HJ2 : Hid (∀ j (h1 : j < ts.length) (h2 : j < ts'.length), j < i + 1 → sameT ts[j] ts'[j] = true) := HG.out rfl
                    go_wp2
                    go_roundw
                    case rel => exact ⟨i + 1, by omega, by go_num, HJ2, HQ2⟩
                    case measure => simp [intOf]; omega
                · have e : i = N := by omega
                  have HT : Hid (sameL ts ts' = true) := sameL_all (by have := HN.out; omega) (fun j h1 h2 => HJ.out j h1 h2 (by have := HN.out; omega))
                  subst e
                  go_wp2
                  go_ret
                  exact ⟨by rw [HS.out, HT.out]; rfl, HBW.out⟩
            · have HS : Hid (sameT (.mk k n s ts) (.mk k n' s' ts') = false) := by
                show _ = _
                simp [sameT_mk, c3, sameL_length c4]
              subst c3
              have c5 : ¬ (ts.length : Int) = (ts'.length : Int) := by omega
              clear hx hr hx' hr' h0 h0'
              go_enter Tryd.func19, Tryd.ntmps19
              go_wp2
              go_ret
              exact ⟨by rw [HS.out]; rfl, HB.out _ _⟩
          · have HS : Hid (sameT (.mk k n s ts) (.mk k n' s' ts') = true) := by
              show _ = _
              simp [sameT_mk, c1, c2, c3]
            clear hx hr hx' hr' h0 h0'
            go_enter Tryd.func19, Tryd.ntmps19
            go_wp2
            go_ret
            exact ⟨by rw [HS.out]; rfl, HB.out _ _⟩
    · have HS : Hid (sameT (.mk k n s ts) (.mk k' n' s' ts') = false) := by show _ = _; simp [sameT_mk, c0]
      clear hx hr hx' hr' h0 h0'
      go_enter Tryd.func19, Tryd.ntmps19
      go_wp2
      go_ret
      exact ⟨by rw [HS.out]; rfl, HB.out _ _⟩

end Go.Proofs.YtjngknnkffbnmaaDoor
namespace Go.Proofs.YtjngknnkffbnmaaDoor
set_option maxRecDepth 100000
open Go.RowKit Crc

/-- The value v reads as the tree, whose lists lie in blocks of which S holds. -/
def CS (w : World) (S : Nat → Prop) (t : Tr) (v : Value) : Prop :=
  ∀ P : Tr → Value → Prop, (∀ (k : Int) (n : Nat) (s : ByteArray) (ts : List Tr) (a : Option Addr) (cap : Nat) (ks : Nat → Int) (ns : Nat → Nat) (ss : Nat → ByteArray) (us : Nat → Value)
      (hk : -9223372036854775808 ≤ k ∧ k ≤ 9223372036854775807) (hn : n < 18446744073709551616) (hs : s.size ≤ 9223372036854775807) (hl : ts.length ≤ cap) (hc : cap ≤ 9223372036854775807) (h0 : a = none → ts = []) (hS : ∀ x, a = some x → ts ≠ [] → S x.block)
      (hx : ∀ x i, a = some x → i < ts.length → x.spot = none ∧ Lies w x.block x.off i (ks i) (ns i) (ss i) (us i))
      (_ : ∀ i (h : i < ts.length), P ts[i] (cellV (ks i) (ns i) (ss i) (us i))), P (.mk k n s ts) (cellV k n s (.slice a ts.length cap))) → P t v

theorem CS.mk {w : World} {S : Nat → Prop} (k : Int) (n : Nat) (s : ByteArray) (ts : List Tr) (a : Option Addr) (cap : Nat) (ks : Nat → Int) (ns : Nat → Nat) (ss : Nat → ByteArray) (us : Nat → Value)
      (hk : -9223372036854775808 ≤ k ∧ k ≤ 9223372036854775807) (hn : n < 18446744073709551616) (hs : s.size ≤ 9223372036854775807) (hl : ts.length ≤ cap) (hc : cap ≤ 9223372036854775807) (h0 : a = none → ts = []) (hS : ∀ x, a = some x → ts ≠ [] → S x.block)
      (hx : ∀ x i, a = some x → i < ts.length → x.spot = none ∧ Lies w x.block x.off i (ks i) (ns i) (ss i) (us i))
      (hr : ∀ i (h : i < ts.length), CS w S ts[i] (cellV (ks i) (ns i) (ss i) (us i))) : CS w S (.mk k n s ts) (cellV k n s (.slice a ts.length cap)) :=
  fun P hP => hP k n s ts a cap ks ns ss us hk hn hs hl hc h0 hS hx (fun i h => hr i h P hP)

theorem CS.ind {w : World} {S : Nat → Prop} {motive : ∀ t v, CS w S t v → Prop} (mk : ∀ (k : Int) (n : Nat) (s : ByteArray) (ts : List Tr) (a : Option Addr) (cap : Nat) (ks : Nat → Int) (ns : Nat → Nat) (ss : Nat → ByteArray) (us : Nat → Value)
      (hk : -9223372036854775808 ≤ k ∧ k ≤ 9223372036854775807) (hn : n < 18446744073709551616) (hs : s.size ≤ 9223372036854775807) (hl : ts.length ≤ cap) (hc : cap ≤ 9223372036854775807) (h0 : a = none → ts = []) (hS : ∀ x, a = some x → ts ≠ [] → S x.block)
      (hx : ∀ x i, a = some x → i < ts.length → x.spot = none ∧ Lies w x.block x.off i (ks i) (ns i) (ss i) (us i))
      (hr : ∀ i (h : i < ts.length), CS w S ts[i] (cellV (ks i) (ns i) (ss i) (us i))) (_ : ∀ i (h : i < ts.length), motive ts[i] (cellV (ks i) (ns i) (ss i) (us i)) (hr i h)), motive (.mk k n s ts) (cellV k n s (.slice a ts.length cap)) (CS.mk k n s ts a cap ks ns ss us hk hn hs hl hc h0 hS hx hr)) {t : Tr} {v : Value} (h : CS w S t v) : motive t v h := by
  have key : ∃ h' : CS w S t v, motive t v h' := h (fun t v => ∃ h', motive t v h') (fun k n s ts a cap ks ns ss us hk hn hs hl hc h0 hS hx hr => ⟨CS.mk k n s ts a cap ks ns ss us hk hn hs hl hc h0 hS hx (fun i h => (hr i h).elim (fun a _ => a)), mk k n s ts a cap ks ns ss us hk hn hs hl hc h0 hS hx (fun i h => (hr i h).elim (fun a _ => a)) (fun i h => (hr i h).elim (fun _ b => b))⟩)
  exact key.elim (fun _ b => b)

theorem CS.elim {w : World} {S : Nat → Prop} {motive : ∀ t v, CS w S t v → Prop} (mk : ∀ (k : Int) (n : Nat) (s : ByteArray) (ts : List Tr) (a : Option Addr) (cap : Nat) (ks : Nat → Int) (ns : Nat → Nat) (ss : Nat → ByteArray) (us : Nat → Value)
      (hk : -9223372036854775808 ≤ k ∧ k ≤ 9223372036854775807) (hn : n < 18446744073709551616) (hs : s.size ≤ 9223372036854775807) (hl : ts.length ≤ cap) (hc : cap ≤ 9223372036854775807) (h0 : a = none → ts = []) (hS : ∀ x, a = some x → ts ≠ [] → S x.block)
      (hx : ∀ x i, a = some x → i < ts.length → x.spot = none ∧ Lies w x.block x.off i (ks i) (ns i) (ss i) (us i))
      (hr : ∀ i (h : i < ts.length), CS w S ts[i] (cellV (ks i) (ns i) (ss i) (us i))), motive (.mk k n s ts) (cellV k n s (.slice a ts.length cap)) (CS.mk k n s ts a cap ks ns ss us hk hn hs hl hc h0 hS hx hr)) {t : Tr} {v : Value} (h : CS w S t v) : motive t v h :=
  CS.ind (fun k n s ts a cap ks ns ss us hk hn hs hl hc h0 hS hx hr _ => mk k n s ts a cap ks ns ss us hk hn hs hl hc h0 hS hx hr) h

theorem CS.cr {w : World} {S : Nat → Prop} {t : Tr} {v : Value} (h : CS w S t v) : CR w t v := by
  induction h using CS.ind with
  | mk k n s ts a cap ks ns ss us hk hn hs hl hc h0 hS hx hr ih => exact CR.mk k n s ts a cap ks ns ss us hk hn hs hl hc h0 hx ih

theorem CS.widen {w : World} {S S' : Nat → Prop} {t : Tr} {v : Value} (h : CS w S t v) (hS' : ∀ k, S k → S' k) : CS w S' t v := by
  induction h using CS.ind with
  | mk k n s ts a cap ks ns ss us hk hn hs hl hc h0 hS hx hr ih => exact CS.mk k n s ts a cap ks ns ss us hk hn hs hl hc h0 (fun x e hne => hS' _ (hS x e hne)) hx ih

theorem Lies.same {w w' : World} {g o i : Nat} {k : Int} {n : Nat} {s : ByteArray} {u : Value} (h : Lies w g o i k n s u) (hg : w'.heap[g]? = w.heap[g]?) : Lies w' g o i k n s u := by
  obtain ⟨h0, h1, h2, h3⟩ := h
  refine ⟨?_, ?_, ?_, ?_⟩
  · unfold World.cell? at h0 ⊢; simp only at h0 ⊢; rw [hg]; exact h0
  · unfold World.cell? at h1 ⊢; simp only at h1 ⊢; rw [hg]; exact h1
  · unfold World.cell? at h2 ⊢; simp only at h2 ⊢; rw [hg]; exact h2
  · unfold World.cell? at h3 ⊢; simp only at h3 ⊢; rw [hg]; exact h3

/-- It reads so still where none of its blocks has turned. -/
theorem CS.kept {w w' : World} {S : Nat → Prop} {t : Tr} {v : Value} (h : CS w S t v) (hg : ∀ k, S k → w'.heap[k]? = w.heap[k]?) : CS w' S t v := by
  induction h using CS.ind with
  | mk k n s ts a cap ks ns ss us hk hn hs hl hc h0 hS hx hr ih =>
    exact CS.mk k n s ts a cap ks ns ss us hk hn hs hl hc h0 hS (fun x i e hi => ⟨(hx x i e hi).1, (hx x i e hi).2.same (hg _ (hS x e (fun e2 => by rw [e2] at hi; exact absurd hi (by simp))))⟩) ih

/-- All that is read lies in blocks that there are. -/
theorem CR.cs {w : World} {t : Tr} {v : Value} (h : CR w t v) : CS w (fun k => k < w.heap.size) t v := by
  induction h using CR.ind with
  | mk k n s ts a cap ks ns ss us hk hn hs hl hc h0 hx hr ih =>
    refine CS.mk k n s ts a cap ks ns ss us hk hn hs hl hc h0 (fun x e hne => ?_) hx ih
    have h1 := (hx x 0 e (List.length_pos_iff.mpr hne)).2.c0
    rcases Nat.lt_or_ge x.block w.heap.size with h2 | h2
    · exact h2
    · exfalso
      unfold World.cell? at h1
      simp only at h1
      rw [Array.getElem?_eq_none h2] at h1
      simp at h1

end Go.Proofs.YtjngknnkffbnmaaDoor
namespace Go.Proofs.YtjngknnkffbnmaaDoor
set_option maxRecDepth 100000
open Go.RowKit Crc

theorem CS.real {w : World} {S : Nat → Prop} {t : Tr} {v : Value} (h : CS w S t v) : CS w (fun k => S k ∧ k < w.heap.size) t v := by
  induction h using CS.ind with
  | mk k n s ts a cap ks ns ss us hk hn hs hl hc h0 hS hx hr ih =>
    refine CS.mk k n s ts a cap ks ns ss us hk hn hs hl hc h0 (fun x e hne => ⟨hS x e hne, ?_⟩) hx ih
    have h1 := (hx x 0 e (List.length_pos_iff.mpr hne)).2.c0
    rcases Nat.lt_or_ge x.block w.heap.size with h2 | h2
    · exact h2
    · exfalso
      unfold World.cell? at h1
      simp only at h1
      rw [Array.getElem?_eq_none h2] at h1
      simp at h1

def quad (k : Int) (n : Nat) (s : ByteArray) (u : Value) : List Value := [.int .i64 k, .int .u64 n, .string s, u]

structure Quads (xs : List Value) (N : Nat) (ks : Nat → Int) (ns : Nat → Nat) (ss : Nat → ByteArray) (us : Nat → Value) : Prop where
  q0 : ∀ i, i < N → xs[i * 4]? = some (.int .i64 (ks i))
  q1 : ∀ i, i < N → xs[i * 4 + 1]? = some (.int .u64 (ns i))
  q2 : ∀ i, i < N → xs[i * 4 + 2]? = some (.string (ss i))
  q3 : ∀ i, i < N → xs[i * 4 + 3]? = some (us i)

/-- The slice v, in a block of its own not below B, holds cells that read as these trees, which lie in other blocks not below B, of which Z holds. -/
def TWz (Z : World → Nat → Prop) (w : World) (B : Nat) (v : Value) (ts : List Tr) : Prop :=
  ∃ (xs : List Value) (ks : Nat → Int) (ns : Nat → Nat) (ss : Nat → ByteArray) (us : Nat → Value), w.ownsRow B 26 4 v ts.length xs ∧ Quads xs ts.length ks ns ss us ∧
    ∀ i (h : i < ts.length), CS w (fun k => B ≤ k ∧ v.ownBlock ≠ some k ∧ k < w.heap.size ∧ Z w k) ts[i] (cellV (ks i) (ns i) (ss i) (us i))

def TW (w : World) (B : Nat) (v : Value) (ts : List Tr) : Prop := TWz (fun _ _ => True) w B v ts

/-- No cell of the block is frozen. -/
def Uf (w : World) (k : Nat) : Prop := ∀ j, w.frozen? ⟨k, j, none⟩ = false
theorem Uf.same {w w' : World} {k : Nat} (h : w'.heap[k]? = w.heap[k]?) (u : Uf w k) : Uf w' k := fun j => (World.frozen?_of_block (w := w) (a := ⟨k, j, none⟩) h).trans (u j)

theorem Quads.snoc {xs : List Value} {N : Nat} {ks : Nat → Int} {ns : Nat → Nat} {ss : Nat → ByteArray} {us : Nat → Value} (h : Quads xs N ks ns ss us) (hl : xs.length = N * 4) (k : Int) (n : Nat) (s : ByteArray) (u : Value) :
    Quads (xs ++ quad k n s u) (N + 1) (fun i => if i = N then k else ks i) (fun i => if i = N then n else ns i) (fun i => if i = N then s else ss i) (fun i => if i = N then u else us i) := by
  refine ⟨?_, ?_, ?_, ?_⟩
  all_goals
    intro i hi
    by_cases c : i = N
    · subst c
      rw [List.getElem?_append_right (by omega)]
      rw [hl]
      simp [quad]
    · rw [List.getElem?_append_left (by omega)]
      simp only [c, if_false]
      first
        | exact h.q0 i (by omega)
        | exact h.q1 i (by omega)
        | exact h.q2 i (by omega)
        | exact h.q3 i (by omega)

/-- One more, where the row was left as it was. -/
theorem TWz.snocK {Z : World → Nat → Prop} (hZ : ∀ (w w' : World) (k : Nat), w'.heap[k]? = w.heap[k]? → Z w k → Z w' k) {w w1 : World} {B : Nat} {v : Value} {ts : List Tr} {t : Tr} {k : Int} {n : Nat} {s : ByteArray} {u : Value} (h : TWz Z w B v ts) (hB : B ≤ w.heap.size) (hsz : w.heap.size ≤ w1.heap.size) (hb : ∀ k, B ≤ k → k < w.heap.size → w1.heap[k]? = w.heap[k]?)
    (hc : CS w1 (fun k => w.heap.size ≤ k ∧ Z w1 k) t (cellV k n s u)) (o : Obj) :
    ∃ xs, w.ownsRow B 26 4 v ts.length xs ∧ ((w1.alloc o).ownsRow B 26 4 v ts.length xs) ∧ (∀ (w3 : World) (g cap : Nat), (hown : w3.ownsRow B 26 4 (.slice (some ⟨g, 0, none⟩) (ts.length + 1) cap) (ts.length + 1) (xs ++ quad k n s u)) → (hgrow : (w1.alloc o).grownBy w3 v.ownBlock) → (hat : v.ownBlock = some g ∨ g = (w1.alloc o).heap.size) →
      TWz Z w3 B (.slice (some ⟨g, 0, none⟩) (ts.length + 1) cap) (ts ++ [t])) := by
  obtain ⟨xs, ks, ns, ss, us, h1, h2, h3⟩ := h
  have hkeep : ∀ k, k < w1.heap.size → v.ownBlock ≠ some k → ∀ w3 : World, (w1.alloc o).grownBy w3 v.ownBlock → w3.heap[k]? = w1.heap[k]? := by
    intro k hk hne w3 hg
    rw [hg.block k (by simp; omega) (fun e => hne e.symm)]
    exact Below.heap_alloc w1 _ k hk
  refine ⟨xs, h1, ?_, ?_⟩
  · have h4 : w1.ownsRow B 26 4 v ts.length xs := by
      cases e : v.ownBlock with
      | none =>
        obtain ⟨l1, l2⟩ := h1
        refine ⟨l1, ?_⟩
        rcases l2 with l2 | ⟨g, cap, cur, rfl, _⟩
        · exact Or.inl l2
        · simp [Value.ownBlock] at e
      | some g0 => exact ownsRow_far h1 (hb g0 (h1.lt g0 e).1 (h1.lt g0 e).2) e
    exact h4.alloc o
  · intro w3 g cap hown hgrow hat
    have hs3 := hgrow.size
    have hs4 : (w1.alloc o).heap.size = w1.heap.size + 1 := by simp
    have hg3 := (hown.lt g rfl).2
    refine ⟨_, _, _, _, _, by rw [List.length_append]; exact hown, by rw [List.length_append]; exact h2.snoc h1.1 k n s u, ?_⟩
    intro i hi
    rw [List.length_append] at hi
    simp only [List.length_cons, List.length_nil] at hi
    by_cases c : i = ts.length
    · subst c
      simp only [if_true, List.getElem_append_right (Nat.le_refl _), Nat.sub_self, List.getElem_cons_zero]
      refine (hc.real.kept (w' := w3) (fun k hk => hkeep k hk.2 (fun e => ?_) w3 hgrow)).widen (fun k hk => ⟨by omega, fun e => ?_, by omega, hZ _ _ k (hkeep k hk.2 (fun e => by have := (h1.lt k e).2; omega) w3 hgrow) hk.1.2⟩)
      · have := (h1.lt k e).2; omega
      · simp [Value.ownBlock] at e
        subst e
        rcases hat with e | e
        · have := (h1.lt g e).2; omega
        · omega
    · have hi2 : i < ts.length := by omega
      simp only [c, if_false, List.getElem_append_left hi2]
      refine ((h3 i hi2).kept (w' := w3) (fun k hk => ?_)).widen (fun k hk => ⟨hk.1, fun e => ?_, by omega, hZ _ _ k ((hkeep k (by omega) hk.2.1 w3 hgrow).trans (hb k hk.1 hk.2.2.1)) hk.2.2.2⟩)
      · rw [hkeep k (by omega) hk.2.1 w3 hgrow]
        exact hb k hk.1 hk.2.2.1
      · simp [Value.ownBlock] at e
        subst e
        rcases hat with e | e
        · exact hk.2.1 e
        · omega

theorem TW.snocK {w w1 : World} {B : Nat} {v : Value} {ts : List Tr} {t : Tr} {k : Int} {n : Nat} {s : ByteArray} {u : Value} (h : TW w B v ts) (hB : B ≤ w.heap.size) (hsz : w.heap.size ≤ w1.heap.size) (hb : ∀ k, B ≤ k → k < w.heap.size → w1.heap[k]? = w.heap[k]?)
    (hc : CS w1 (fun k => w.heap.size ≤ k) t (cellV k n s u)) (o : Obj) :
    ∃ xs, w.ownsRow B 26 4 v ts.length xs ∧ ((w1.alloc o).ownsRow B 26 4 v ts.length xs) ∧ (∀ (w3 : World) (g cap : Nat), (hown : w3.ownsRow B 26 4 (.slice (some ⟨g, 0, none⟩) (ts.length + 1) cap) (ts.length + 1) (xs ++ quad k n s u)) → (hgrow : (w1.alloc o).grownBy w3 v.ownBlock) → (hat : v.ownBlock = some g ∨ g = (w1.alloc o).heap.size) →
      TW w3 B (.slice (some ⟨g, 0, none⟩) (ts.length + 1) cap) (ts ++ [t])) :=
  TWz.snocK (Z := fun _ _ => True) (fun _ _ _ _ h => h) h hB hsz hb (hc.widen (fun _ hk => ⟨hk, trivial⟩)) o

/-- One more. -/
theorem TW.snoc {w w1 : World} {B : Nat} {v : Value} {ts : List Tr} {t : Tr} {k : Int} {n : Nat} {s : ByteArray} {u : Value} (h : TW w B v ts) (hB : B ≤ w.heap.size) (hb : Below w.heap.size w w1)
    (hc : CS w1 (fun k => w.heap.size ≤ k) t (cellV k n s u)) (o : Obj) :
    ∃ xs, w.ownsRow B 26 4 v ts.length xs ∧ ((w1.alloc o).ownsRow B 26 4 v ts.length xs) ∧ (∀ (w3 : World) (g cap : Nat), (hown : w3.ownsRow B 26 4 (.slice (some ⟨g, 0, none⟩) (ts.length + 1) cap) (ts.length + 1) (xs ++ quad k n s u)) → (hgrow : (w1.alloc o).grownBy w3 v.ownBlock) → (hat : v.ownBlock = some g ∨ g = (w1.alloc o).heap.size) →
      TW w3 B (.slice (some ⟨g, 0, none⟩) (ts.length + 1) cap) (ts ++ [t])) :=
  h.snocK hB hb.size (fun k _ hk => hb.block k hk) hc o

end Go.Proofs.YtjngknnkffbnmaaDoor
namespace Go.Proofs.YtjngknnkffbnmaaDoor
set_option maxRecDepth 100000
open Go.RowKit Crc

theorem info25b : (Tryd.prog.info? 26).map (fun i => (i.zero, i.size, i.bytes)) = some (some (.agg #[.int .i64 0, .int .u64 0, .string ⟨#[]⟩, .slice none 0 0]), 4, 56) := by kernel_rfl

theorem CS.form {w : World} {S : Nat → Prop} {t : Tr} {v : Value} (h : CS w S t v) : ∃ k n s a m cap, v = cellV k n s (.slice a m cap) := by
  cases h using CS.elim with
  | mk k n s ts a cap => exact ⟨k, n, s, a, _, cap, rfl⟩

theorem cells_quad (w : World) (k : Int) (n : Nat) (s : ByteArray) (u : Value) (t : TypeId) : ∀ j y, (quad k n s u)[j]? = some y → (w.alloc (.cells #[.int .i64 k, .int .u64 n, .string s, u] t)).cell? (Addr.add ⟨w.heap.size, 0, none⟩ j) = some y := by
  intro j y hy
  match j, hy with
  | 0, hy => rw [Addr_add_zero, World.cell?_alloc_new]; simpa [quad] using hy
  | 1, hy => rw [show Addr.add ⟨w.heap.size, 0, none⟩ 1 = ⟨w.heap.size, 1, none⟩ from rfl, World.cell?_alloc_new]; simpa [quad] using hy
  | 2, hy => rw [show Addr.add ⟨w.heap.size, 0, none⟩ 2 = ⟨w.heap.size, 2, none⟩ from rfl, World.cell?_alloc_new]; simpa [quad] using hy
  | 3, hy => rw [show Addr.add ⟨w.heap.size, 0, none⟩ 3 = ⟨w.heap.size, 3, none⟩ from rfl, World.cell?_alloc_new]; simpa [quad] using hy
  | j + 4, hy => simp [quad] at hy

/-- A row is a list. -/
theorem TWz.cs {Z : World → Nat → Prop} {w : World} {B N cap : Nat} {a : Option Addr} {ts : List Tr} (h : TWz Z w B (.slice a N cap) ts) (hz : ∀ g, (Value.slice a N cap).ownBlock = some g → Z w g) (hN : N = ts.length) (k : Int) (n : Nat) (s : ByteArray) (hk : -9223372036854775808 ≤ k ∧ k ≤ 9223372036854775807) (hn : n < 18446744073709551616) (hs : s.size ≤ 9223372036854775807) :
    CS w (fun k => B ≤ k ∧ Z w k) (.mk k n s ts) (cellV k n s (.slice a N cap)) := by
  obtain ⟨xs, ks, ns, ss, us, h1, h2, h3⟩ := h
  subst hN
  have h4 := h1
  rcases h1.2 with ⟨e, e2⟩ | ⟨g, cap', cur, e, hb, _, hl, hc, _⟩
  · simp only [Value.slice.injEq] at e
    obtain ⟨rfl, _, rfl⟩ := e
    have e3 : ts = [] := List.eq_nil_of_length_eq_zero e2
    subst e3
    exact CS.mk k n s [] none 0 ks ns ss us hk hn hs (Nat.le_refl _) (by decide) (fun _ => rfl) (fun x e => by cases e) (fun x i e => by cases e) (fun i h => absurd h (Nat.not_lt_zero _))
  · simp only [Value.slice.injEq] at e
    obtain ⟨rfl, _, rfl⟩ := e
    unfold maxLen at hc
    refine CS.mk k n s ts _ cap ks ns ss us hk hn hs hl (by omega) (fun e => by cases e) (fun x e _ => by cases e; exact ⟨hb, hz g rfl⟩) (fun x i e hi => ?_) (fun i hi => (h3 i hi).widen (fun k hk => ⟨hk.1, hk.2.2.2⟩))
    cases e
    refine ⟨rfl, ?_, ?_, ?_, ?_⟩
    · simp only [Nat.zero_add]; rw [h4.cellAt _ (by omega)]; exact h2.q0 i hi
    · simp only [Nat.zero_add]; rw [h4.cellAt _ (by omega)]; exact h2.q1 i hi
    · simp only [Nat.zero_add]; rw [h4.cellAt _ (by omega)]; exact h2.q2 i hi
    · simp only [Nat.zero_add]; rw [h4.cellAt _ (by omega)]; exact h2.q3 i hi

theorem TW.cs {w : World} {B N cap : Nat} {a : Option Addr} {ts : List Tr} (h : TW w B (.slice a N cap) ts) (hN : N = ts.length) (k : Int) (n : Nat) (s : ByteArray) (hk : -9223372036854775808 ≤ k ∧ k ≤ 9223372036854775807) (hn : n < 18446744073709551616) (hs : s.size ≤ 9223372036854775807) :
    CS w (fun k => B ≤ k) (.mk k n s ts) (cellV k n s (.slice a N cap)) :=
  (TWz.cs (Z := fun _ _ => True) h (fun _ _ => trivial) hN k n s hk hn hs).widen (fun _ hk => hk.1)

theorem ownsRow_uf {w : World} {B e s n g : Nat} {v : Value} {xs : List Value} (h : w.ownsRow B e s v n xs) (hv : v.ownBlock = some g) : Uf w g := by
  rcases h.2 with ⟨e1, _⟩ | ⟨g', cap, cur, e1, _, hg, _⟩
  · rw [e1] at hv; cases hv
  · rw [e1] at hv
    simp [Value.ownBlock] at hv
    subst hv
    intro j
    unfold World.frozen?
    simp [hg]

set_option maxHeartbeats 2000000 in
theorem own_cell_u : ∀ (D : Nat) (t : Tr) (v : Value) (w : World), t.dep < D → t.cnt ≤ 1000000 → CR w t v →
    Calls Tryd.prog 21 #[v] w fun e w' => ∃ v', e = .returned v' ∧ CS w' (fun k => w.heap.size ≤ k ∧ Uf w' k) t v' ∧ Below w.heap.size w w' := by
  intro D
  induction D with
  | zero => intro t v w h; omega
  | succ D ih =>
    intro t v w hD hcnt h
    cases h using CR.elim with
    | mk k n s ts a cap ks ns ss us hk hn hs hl hc h0 hx hr =>
    unfold cellV
    obtain ⟨i0, hi0, hz0, hz1, hz2⟩ := info_parts info25b
    obtain ⟨N, hN⟩ : ∃ N, N = ts.length := ⟨_, rfl⟩
    have HN : Hid (N = ts.length) := hN
    have HD : Hid (deps ts < D + 1) := by rw [Tr.dep_mk] at hD; exact hD
    have HR : Hid (∀ i (h : i < ts.length), CR w ts[i] (cellV (ks i) (ns i) (ss i) (us i))) := hr
    have HX : Hid (∀ x i, a = some x → i < ts.length → x.spot = none ∧ Lies w x.block x.off i (ks i) (ns i) (ss i) (us i)) := hx
    have H0 : Hid (a = none → ts = []) := h0
    have HI : Hid _ := ih
    have HCN : Hid (1 + cnts ts ≤ 1000000) := by rw [Tr.cnt_mk] at hcnt; exact hcnt
    rw [← hN]
    rw [← hN] at hl
    obtain ⟨w0, hw0⟩ : ∃ w0, w0 = ((w.alloc (.cells #[.int .i64 k, .int .u64 n, .string s, .slice a N cap] 26)).alloc (.cells #[.int .i64 0, .int .u64 0, .string ⟨#[]⟩, .slice none 0 0] 26)).alloc (.cells #[] 26) := ⟨_, rfl⟩
    clear hr hx h0 ih hD hN hcnt
    go_enter Tryd.func21, Tryd.ntmps21
    go_wp2_with fail
    rw [← hw0]
    have hs0 : w0.heap.size = w.heap.size + 3 := by rw [hw0]; simp
    have HB0 : Hid (Below w.heap.size w w0) := by
      rw [hw0]
      exact (((Below.refl _ w).alloc (Nat.le_refl _) _).alloc (by simp) _).alloc (by simp; omega) _
    have HT0 : Hid (TWz Uf w0 (w.heap.size + 2) (.slice (some ⟨w.heap.size + 1 + 1, 0, none⟩) 0 0) []) := by
      refine ⟨[], fun _ => 0, fun _ => 0, fun _ => ⟨#[]⟩, fun _ => .slice none 0 0, ?_, ⟨fun i h => absurd h (Nat.not_lt_zero _), fun i h => absurd h (Nat.not_lt_zero _), fun i h => absurd h (Nat.not_lt_zero _), fun i h => absurd h (Nat.not_lt_zero _)⟩, fun i h => absurd h (Nat.not_lt_zero _)⟩
      have := World.ownsRow_made (e := 26) (size := 4) (base := w.heap.size + 2) ((w.alloc (.cells #[.int .i64 k, .int .u64 n, .string s, .slice a N cap] 26)).alloc (.cells #[.int .i64 0, .int .u64 0, .string ⟨#[]⟩, .slice none 0 0] 26)) #[] 0 (by simp) (by decide) rfl
      rw [← hw0] at this
      simpa using this
    have G : ∀ j, w0.cell? ⟨w.heap.size, j, none⟩ = (#[.int .i64 k, .int .u64 n, .string s, .slice a N cap] : Array Value)[j]? := by
      intro j
      rw [hw0, World.cell?_alloc_lt _ _ _ (by simp; omega), World.cell?_alloc_lt _ _ _ (by simp), World.cell?_alloc_new]
    have G2 : ∀ j, w0.cell? ⟨w.heap.size + 1, j, none⟩ = (#[.int .i64 0, .int .u64 0, .string ⟨#[]⟩, .slice none 0 0] : Array Value)[j]? := by
      intro j
      rw [hw0, World.cell?_alloc_lt _ _ _ (by simp), World.cell?_alloc_at _ _ _ _ (by simp)]
    have K2 : w0.heap[w.heap.size + 1]? = some (.cells #[.int .i64 0, .int .u64 0, .string ⟨#[]⟩, .slice none 0 0] 26 (0, 0)) := by
      rw [hw0, Below.heap_alloc _ _ _ (by simp)]
      have := heap_alloc_new (w.alloc (.cells #[.int .i64 k, .int .u64 n, .string s, .slice a N cap] 26)) (.cells #[.int .i64 0, .int .u64 0, .string ⟨#[]⟩, .slice none 0 0] 26)
      simpa using this
    have F1 : ∀ j, w0.frozen? ⟨w.heap.size, j, none⟩ = false := by
      intro j
      rw [hw0, World.frozen?_alloc_past _ _ _ (by simp; omega), World.frozen?_alloc_past _ _ _ (by simp), World.frozen?_alloc_at _ _ _ _ rfl]
    have F2 : ∀ j, w0.frozen? ⟨w.heap.size + 1, j, none⟩ = false := by
      intro j
      rw [hw0, World.frozen?_alloc_past _ _ _ (by simp), World.frozen?_alloc_at _ _ _ _ (by simp)]
    have g0 : w0.cell? ⟨w.heap.size, 3, none⟩ = some (.slice a N cap) := G 3
    clear hw0
    go_loopw [3, 4] (fun t3 t4 wr => ∃ (i : Nat), i ≤ N ∧ t4 = .int .i64 i ∧ Hid (TWz Uf wr (w.heap.size + 2) t3 (ts.take i)) ∧ Hid (Below (w.heap.size + 2) w0 wr)) (fun _ t4 _ => N - (intOf t4).toNat)
    case atStart => exact ⟨0, Nat.zero_le _, rfl, HT0, Below.refl _ _⟩
    case round =>
      obtain ⟨i, hi, rfl, HT, HW⟩ := hrel
      have hsz := HW.out.size
      have HBW : Hid (Below w.heap.size w wr) := HB0.out.trans (HW.out.mono (by omega))
      have b0 : wr.cell? ⟨w.heap.size, 3, none⟩ = some (.slice a N cap) := by
        rw [← g0]
        exact HW.out.cell (p := ⟨w.heap.size, 3, none⟩) (show w.heap.size < w.heap.size + 2 by omega)
      by_cases c : i < N
      · have i1 : i < ts.length := by rw [← HN.out]; exact c
        obtain ⟨x, hx⟩ : ∃ x, a = some x := by
          cases a with
          | some x => exact ⟨x, rfl⟩
          | none => rw [H0.out rfl] at i1; exact absurd i1 (by simp)
        subst hx
        obtain ⟨hsp, hli⟩ := HX.out x i rfl i1
        obtain ⟨g, o, sp⟩ := x
        simp only at hsp
        subst hsp
        obtain ⟨l0, l1, l2, l3⟩ := hli.below HBW.out (Nat.le_refl _)
        have hct := cnts_take ts i i1
        have hcl : cnts (ts.take (i + 1)) ≤ cnts ts := by
          have := cnts_append (ts.take (i + 1)) (ts.drop (i + 1))
          rw [List.take_append_drop] at this
          omega
        have hcall := HI.out ts[i] _ wr (by have := deps_get i i1; have := HD.out; omega) (by have := HCN.out; omega) ((HR.out i i1).kept HBW.out (Nat.le_refl _))
        unfold cellV at hcall
        clear hli hct hcl
        go_wp2_with fail
        refine hcall.mono ?_
        rintro e w2 ⟨v2, rfl, hcs, hb2⟩
        obtain ⟨k2, n2, s2, a2, m2, cap2, rfl⟩ := hcs.form
        have hlen : (ts.take i).length = i := by rw [List.length_take]; omega
        obtain ⟨xs, ho1, ho2, hnext⟩ := HT.out.snocK (fun _ _ _ => Uf.same) (B := w.heap.size + 2) (w1 := w2) (by omega) hb2.size (fun k _ hk => hb2.block k hk) hcs (.cells #[.int .i64 k2, .int .u64 n2, .string s2, .slice a2 m2 cap2] 26)
        rw [hlen] at ho2
        have HNX : Hid (∀ (w3 : World) (g cap : Nat), _) := hnext
        have HBX : Hid (Below wr.heap.size wr w2) := hb2
        have hsz2 := hb2.size
        have hi9 : i < 1000000 := by
          have h1 : ∀ l : List Tr, l.length ≤ cnts l := by
            intro l
            induction l with
            | nil => simp [cnts_nil]
            | cons t l ih => simp only [cnts_cons, List.length_cons]; have := cnt_pos t; omega
          have := h1 ts
          have := HCN.out
          omega
        unfold cellV
        clear hnext ho1 hcs hb2 hcall l0 l1 l2 l3
        go_wp2_with (at_builtin; refine wpList_append_lies _ rfl _ _ 24 rfl (w.heap.size + 2) 26 i0 _ 4 56 Tryd.underlying24 hi0 hz0 hz1 hz2 rfl (by decide) _ i xs rfl ho2 ⟨w2.heap.size, 0, none⟩ 1 1 (quad k2 n2 s2 (.slice a2 m2 cap2)) rfl rfl (cells_quad _ _ _ _ _ _) (by intro u hu; simp [quad] at hu; rcases hu with rfl | rfl | rfl | rfl <;> rfl) (by decide) (by unfold maxLen; omega) (by omega) (by simp; omega) _ rfl ?_)
        intro g3 cap3 w3 hown3 hgrow3 hat3 _
        have HT3 : Hid (TWz Uf w3 (w.heap.size + 2) (.slice (some ⟨g3, 0, none⟩) (i + 1) cap3) (ts.take (i + 1))) := by
          have := HNX.out w3 g3 cap3 (by rw [hlen]; exact hown3) hgrow3 (by simpa using hat3)
          rw [hlen] at this
          show TWz _ _ _ _ _
          rw [List.take_succ_eq_append_getElem i1]
          exact this
        have HW3 : Hid (Below (w.heap.size + 2) w0 w3) := by
          have k1 : Below (w.heap.size + 2) w0 w2 := HW.out.trans (HBX.out.mono (by omega))
          refine (k1.alloc (by omega) _).grown hgrow3 (by simp; omega) (fun k hk => (ho2.lt k hk).1)
        clear hown3 hgrow3 hat3 ho2
        go_wp2
        go_roundw
        case rel => exact ⟨i + 1, by omega, by go_num, HT3, HW3⟩
        case measure => simp [intOf]; omega
      · have e : i = N := by omega
        subst e
        have et : ts.take i = ts := by rw [HN.out, List.take_length]
        rw [et] at HT
        obtain ⟨a3, cap3, e3⟩ : ∃ a3 cap3, u3 = .slice a3 i cap3 := by
          obtain ⟨xs, _, _, _, _, h1, _⟩ := HT.out
          rw [← HN.out] at h1
          rcases h1.2 with ⟨e, e2⟩ | ⟨g, cap, _, e, _⟩
          · exact ⟨none, 0, by rw [e2]; exact e⟩
          · exact ⟨some ⟨g, 0, none⟩, cap, e⟩
        subst e3
        have c0 : wr.cell? ⟨w.heap.size, 0, none⟩ = some (.int .i64 k) := (HW.out.cell (p := ⟨w.heap.size, 0, none⟩) (show w.heap.size < w.heap.size + 2 by omega)).trans (G 0)
        have c1 : wr.cell? ⟨w.heap.size, 1, none⟩ = some (.int .u64 n) := (HW.out.cell (p := ⟨w.heap.size, 1, none⟩) (show w.heap.size < w.heap.size + 2 by omega)).trans (G 1)
        have c2 : wr.cell? ⟨w.heap.size, 2, none⟩ = some (.string s) := (HW.out.cell (p := ⟨w.heap.size, 2, none⟩) (show w.heap.size < w.heap.size + 2 by omega)).trans (G 2)
        have d0 : wr.cell? ⟨w.heap.size + 1, 0, none⟩ = some (.int .i64 0) := (HW.out.cell (p := ⟨w.heap.size + 1, 0, none⟩) (show w.heap.size + 1 < w.heap.size + 2 by omega)).trans (G2 0)
        have d1 : wr.cell? ⟨w.heap.size + 1, 1, none⟩ = some (.int .u64 0) := (HW.out.cell (p := ⟨w.heap.size + 1, 1, none⟩) (show w.heap.size + 1 < w.heap.size + 2 by omega)).trans (G2 1)
        have d2 : wr.cell? ⟨w.heap.size + 1, 2, none⟩ = some (.string ⟨#[]⟩) := (HW.out.cell (p := ⟨w.heap.size + 1, 2, none⟩) (show w.heap.size + 1 < w.heap.size + 2 by omega)).trans (G2 2)
        have d3 : wr.cell? ⟨w.heap.size + 1, 3, none⟩ = some (.slice none 0 0) := (HW.out.cell (p := ⟨w.heap.size + 1, 3, none⟩) (show w.heap.size + 1 < w.heap.size + 2 by omega)).trans (G2 3)
        have hfz : ∀ k, k < w.heap.size + 2 → ∀ j, wr.frozen? ⟨k, j, none⟩ = w0.frozen? ⟨k, j, none⟩ := by
          intro k hk j
          have := HW.out.block k hk
          unfold World.frozen?
          simp only [this]
        have f1 : wr.frozen? ⟨w.heap.size, 3, none⟩ = false := (hfz _ (by omega) 3).trans (F1 3)
        have e0 : wr.frozen? ⟨w.heap.size + 1, 0, none⟩ = false := (hfz _ (by omega) 0).trans (F2 0)
        have e1 : wr.frozen? ⟨w.heap.size + 1, 1, none⟩ = false := (hfz _ (by omega) 1).trans (F2 1)
        have e2 : wr.frozen? ⟨w.heap.size + 1, 2, none⟩ = false := (hfz _ (by omega) 2).trans (F2 2)
        have e3 : wr.frozen? ⟨w.heap.size + 1, 3, none⟩ = false := (hfz _ (by omega) 3).trans (F2 3)
        have K3 : wr.heap[w.heap.size + 1]? = some (.cells #[.int .i64 0, .int .u64 0, .string ⟨#[]⟩, .slice none 0 0] 26 (0, 0)) := (HW.out.block _ (by omega)).trans K2
        have HQ := HT.out.cs (fun g hg => by obtain ⟨xs, _, _, _, _, h1, _⟩ := HT.out; exact ownsRow_uf h1 hg) HN.out k n s hk hn hs
        have HK : Hid (∀ W : World, W = ((((wr.setCell ⟨w.heap.size, 3, none⟩ (.slice a3 i cap3)).setCell ⟨w.heap.size + 1, 0, none⟩ (.int .i64 k)).setCell ⟨w.heap.size + 1, 1, none⟩ (.int .u64 n)).setCell ⟨w.heap.size + 1, 2, none⟩ (.string s)).setCell ⟨w.heap.size + 1, 3, none⟩ (.slice a3 i cap3) →
            W.heap[w.heap.size + 1]? = some (.cells #[.int .i64 k, .int .u64 n, .string s, .slice a3 i cap3] 26 (0, 0)) ∧ CS W (fun k => w.heap.size ≤ k ∧ Uf W k) (.mk k n s ts) (cellV k n s (.slice a3 i cap3)) ∧ Below w.heap.size w W) := by
          intro W hW
          subst hW
          refine ⟨?_, ?_, ?_⟩
          · have z0 := (heap_setCell_other wr ⟨w.heap.size, 3, none⟩ (w.heap.size + 1) (.slice a3 i cap3) (by simp)).trans K3
            have z1 := heap_setCell_same _ _ 0 _ _ (.int .i64 k) z0
            have z2 := heap_setCell_same _ _ 1 _ _ (.int .u64 n) z1
            have z3 := heap_setCell_same _ _ 2 _ _ (.string s) z2
            have z4 := heap_setCell_same _ _ 3 _ _ (.slice a3 i cap3) z3
            exact z4
          · have hfar : ∀ q, w.heap.size + 2 ≤ q → ((((((wr.setCell ⟨w.heap.size, 3, none⟩ (.slice a3 i cap3)).setCell ⟨w.heap.size + 1, 0, none⟩ (.int .i64 k)).setCell ⟨w.heap.size + 1, 1, none⟩ (.int .u64 n)).setCell ⟨w.heap.size + 1, 2, none⟩ (.string s)).setCell ⟨w.heap.size + 1, 3, none⟩ (.slice a3 i cap3)).heap[q]? = wr.heap[q]?) := by
              intro q hq
              rw [heap_setCell_other _ _ _ _ (by simp; omega), heap_setCell_other _ _ _ _ (by simp; omega), heap_setCell_other _ _ _ _ (by simp; omega), heap_setCell_other _ _ _ _ (by simp; omega), heap_setCell_other _ _ _ _ (by simp; omega)]
            exact (HQ.kept (fun k hk => hfar k hk.1)).widen (fun k hk => ⟨by omega, Uf.same (hfar k hk.1) hk.2⟩)
          · exact ((((HBW.out.setCell (by simp) _).setCell (by simp) _).setCell (by simp) _).setCell (by simp) _).setCell (by simp) _
        clear G g0 G2 F1 F2 hfz K2 K3 HQ
        go_wp2
        obtain ⟨y1, y2, y3⟩ := HK.out _ rfl
        exact bodyPost_ret (results_cell_row rfl _ _ (w.heap.size + 1) _ _ _ _ rfl y1 Tryd.underlying26 rfl info25) rfl ⟨_, rfl, y2, y3⟩

theorem own_cell (D : Nat) (t : Tr) (v : Value) (w : World) (h1 : t.dep < D) (h2 : t.cnt ≤ 1000000) (h3 : CR w t v) :
    Calls Tryd.prog 21 #[v] w fun e w' => ∃ v', e = .returned v' ∧ CS w' (fun k => w.heap.size ≤ k) t v' ∧ Below w.heap.size w w' :=
  (own_cell_u D t v w h1 h2 h3).mono fun _ _ ⟨v', e, q, b⟩ => ⟨v', e, q.widen (fun _ hk => hk.1), b⟩

end Go.Proofs.YtjngknnkffbnmaaDoor
