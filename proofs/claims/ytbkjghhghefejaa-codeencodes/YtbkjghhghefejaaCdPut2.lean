/-
  Layer 7: the reference's put, walked: a number, a text, what is no kind.
-/
import Derived.Test.YtbkjghhghefejaaCdPut
namespace Go.Proofs.Ytbkjghhghefejaa
open Go.RowKit Crc

/-- What the reference's put tells. -/
def PutP (r : Nat ⊕ List Nat) (B : Nat) (v : Value) (w : World) (e : Ending) (w' : World) : Prop :=
  ∃ v' x, e = .returned (.tuple #[v', .int .i64 x]) ∧ Below B w w' ∧ match r with
    | .inl y => v' = .slice none 0 0 ∧ x = (y : Int)
    | .inr m => OW w' B v' m ∧ x = 0 ∧ KO v v' w w' ∧ m.length ≤ 1048576

theorem PutP.err {B : Nat} {v : Value} {w w' : World} {y : Nat} {r : Nat ⊕ List Nat} (hr : r = .inl y) (hb : Below B w w') : PutP r B v w (.returned (.tuple #[.slice none 0 0, .int .i64 y])) w' := by
  rw [hr]; exact ⟨_, _, rfl, hb, rfl, rfl⟩
theorem PutP.ok {B : Nat} {v v' : Value} {w w' : World} {m : List Nat} {r : Nat ⊕ List Nat} (hr : r = .inr m) (hb : Below B w w') (ho : OW w' B v' m) (hk : KO v v' w w') (hm : m.length ≤ 1048576) : PutP r B v w (.returned (.tuple #[v', .int .i64 0])) w' := by
  rw [hr]; exact ⟨_, _, rfl, hb, ho, rfl, hk, hm⟩
theorem KO.alloc {v v' : Value} {w w' : World} {o : Obj} (h : KO v v' (w.alloc o) w') : KO v v' w w' := by
  have hs : (w.alloc o).heap.size = w.heap.size + 1 := by simp
  have hz := h.size
  refine ⟨h.os, h.tape, h.output, by omega, fun k hk hv => ?_, fun k hk => ?_⟩
  · rw [h.block k (by omega) hv]
    exact Below.heap_alloc w o k hk
  · rcases h.own k hk with e | e
    · exact Or.inl e
    · exact Or.inr (by omega)

set_option maxHeartbeats 2000000 in
theorem rput_bad (B : Nat) (k : Int) (n : Nat) (s : ByteArray) (u v : Value) (d : Int) (w : World) (hB : B ≤ w.heap.size) (k0 : ¬ k = 0) (k1 : ¬ k = 1) (k2 : ¬ k = 2) :
    Calls Try.prog 26 #[v, .agg #[.int .i64 k, .int .u64 n, .string s, u], .int .i64 d] w (PutP (.inl 1) B v w) := by
  have HB0 : Hid (Below B w (w.alloc (.cells #[.int .i64 k, .int .u64 n, .string s, u] 25))) := (Below.refl _ _).alloc hB _
  by_cases c : k < 0
  · go_enter Try.func26, Try.ntmps26
    go_wp2
    go_ret2
    exact PutP.err rfl HB0.out
  · have c2 : k > 2 := by omega
    go_enter Try.func26, Try.ntmps26
    go_wp2
    go_ret2
    exact PutP.err rfl HB0.out

set_option maxHeartbeats 4000000 in
theorem rput_number (B : Nat) (n : Nat) (s : ByteArray) (u v : Value) (d : Int) (l : List Nat) (w : World) (h : OW w B v l) (hB : B ≤ w.heap.size) (hl : l.length ≤ 1048576) (hn : n < 18446744073709551616) (r : Nat ⊕ List Nat) (hr : r = if l.length + 9 ≤ 1048576 then .inr (l ++ ([0] ++ be n 8)) else .inl 2) :
    Calls Try.prog 26 #[v, .agg #[.int .i64 0, .int .u64 n, .string s, u], .int .i64 d] w (PutP r B v w) := by
  have HR : Hid (r = if l.length + 9 ≤ 1048576 then .inr (l ++ ([0] ++ be n 8)) else .inl 2) := hr
  clear hr
  obtain ⟨w1, hw1⟩ : ∃ w1, w1 = w.alloc (.cells #[.int .i64 0, .int .u64 n, .string s, u] 25) := ⟨_, rfl⟩
  have hs1 : w1.heap.size = w.heap.size + 1 := by rw [hw1]; simp
  have o1 : OW w1 B v l := by rw [hw1]; exact h.alloc _
  have x1 : Bxc w1 w.heap.size 0 n s u := by rw [hw1]; exact Bxc.new w 0 n s u _
  have hfree : v.ownBlock ≠ some w.heap.size := fun e => by have := (h.2.lt _ e).2; omega
  have HK1 : Hid (∀ v' w', KO v v' w1 w' → KO v v' w w') := fun v' w' k => by rw [hw1] at k; exact k.alloc
  obtain ⟨a, cap, rfl⟩ := ownsRow_slice h.2
  have HX1 : Hid (Bxc w1 w.heap.size 0 n s u) := x1
  obtain ⟨_, c0, c1, c2, c3⟩ := x1
  have HO : Hid (OW w B (.slice a l.length cap) l) := h
  have o2 := o1.alloc (.cells #[.int .u8 (0 : Nat)] 5)
  have b2 := br_one w1 0 (by decide)
  clear h o1
  go_enter Try.func26, Try.ntmps26
  go_wp2_with (at_builtin; rw [← hw1]; refine wpList_append_brl rfl _ _ rfl B _ _ l [0] rfl rfl o2 (by rw [← hs1]; exact b2) (by simp) (by simp only [List.length_cons, List.length_nil]; omega) (by simp; omega) ?_)
  intro v2 w2 p2 g2
  rw [← hw1] at g2
  have g2a : KO (.slice a l.length cap) v2 w1 w2 := KO.alloc g2
  have hs2 := g2a.size
  have x2 := HX1.out.ko g2a hfree
  have hf2 := g2a.free (q := w.heap.size) (by omega) hfree
  have HG2 : Hid (KO (.slice a l.length cap) v2 w1 w2) := g2a
  have HX2 : Hid (Bxc w2 w.heap.size 0 n s u) := x2
  have HP2 : Hid (OW w2 B v2 (l ++ [0])) := p2
  obtain ⟨a2, cap2, rfl⟩ := ownsRow_slice p2.2
  have hl2 : (l ++ [0]).length = l.length + 1 := by simp
  rw [hl2] at HP2 HG2 hf2 ⊢
  have hby := rbytes_any n 8 w2 hn (by decide)
  clear c0 c1 c2 c3 o2 b2 p2 g2 g2a hw1
  obtain ⟨_, c0, c1, c2, c3⟩ := x2
  go_wp2_with fail
  refine hby.mono ?_
  rintro e w3 ⟨v3, rfl, o3, hb3⟩
  have hs3 := hb3.size
  have p3 : OW w3 B (.slice a2 (l.length + 1) cap2) (l ++ [0]) := HP2.out.below hb3 (Nat.le_refl _)
  have HX3 : Hid (Bxc w3 w.heap.size 0 n s u) := HX2.out.below hb3
  have HG3 : Hid (KO (.slice a l.length cap) (.slice a2 (l.length + 1) cap2) w1 w3) := HG2.out.trans (KO.of hb3)
  have q3 := o3.br
  obtain ⟨a3, cap3, rfl⟩ := ownsRow_slice o3.2
  rw [be_length] at q3 ⊢
  clear hby o3 hb3 c0 c1 c2 c3
  go_wp2_with (at_builtin; refine wpList_append_brl rfl _ _ rfl B _ _ (l ++ [0]) (be n 8) rfl rfl p3 q3 (by rw [be_length]; decide) (by rw [hl2, be_length]; omega) (by omega) ?_)
  intro v4 w4 p4a g4
  have p4 : OW w4 B v4 (l ++ [0] ++ be n 8) := by rw [List.append_assoc]; exact p4a
  have hs4 := g4.size
  have x4 := HX3.out.ko g4 hf2
  have hf4 := g4.free (q := w.heap.size) (by omega) hf2
  have HG4 : Hid (KO (.slice a l.length cap) v4 w1 w4) := HG3.out.trans g4
  have HP4 : Hid (OW w4 B v4 (l ++ [0] ++ be n 8)) := p4
  have HX4 : Hid (Bxc w4 w.heap.size 0 n s u) := x4
  obtain ⟨a4, cap4, rfl⟩ := ownsRow_slice p4.2
  have hl4 : (l ++ [0] ++ be n 8).length = l.length + 1 + 8 := by simp [be_length]
  rw [hl4] at HP4 HG4 hf4 ⊢
  obtain ⟨_, c0, c1, c2, c3⟩ := x4
  clear p3 q3 p4 p4a g4
  by_cases cM : l.length + 9 ≤ 1048576
  · have cMi : ¬ (l.length : Int) + 1 + 8 > 1048576 := by omega
    have HQ : Hid (PutP r B (.slice a l.length cap) w (.returned (.tuple #[.slice a4 (l.length + 1 + 8) cap4, .int .i64 0])) w4) := by
      have hk := HK1.out _ _ HG4.out
      refine PutP.ok (m := l ++ ([0] ++ be n 8)) (by rw [HR.out, if_pos cM]) (hk.below HO.out hB) ?_ hk (by simp [be_length]; omega)
      rw [← List.append_assoc]; exact HP4.out
    go_wp2_with fail
    go_loopw [0, 8] (fun t0 t8 wr => t0 = .slice a4 (l.length + 1 + 8) cap4 ∧ t8 = .int .i64 0 ∧ wr = w4) (fun _ _ _ => 0)
    case atStart => exact ⟨rfl, rfl, rfl⟩
    case round =>
      obtain ⟨rfl, rfl, rfl⟩ := hrel
      go_wp2
      go_ret2
      exact HQ.out
  · have cMi : (l.length : Int) + 1 + 8 > 1048576 := by omega
    have HQ : Hid (PutP r B (.slice a l.length cap) w (.returned (.tuple #[.slice none 0 0, .int .i64 2])) w4) := by
      have hk := HK1.out _ _ HG4.out
      exact PutP.err (by rw [HR.out, if_neg cM]) (hk.below HO.out hB)
    go_wp2
    go_ret2
    exact HQ.out

set_option maxHeartbeats 4000000 in
theorem rput_text (B : Nat) (n : Nat) (s : ByteArray) (u v : Value) (d : Int) (l : List Nat) (w : World) (h : OW w B v l) (hB : B ≤ w.heap.size) (hl : l.length ≤ 1048576) (hs : s.size ≤ 140737488355328) (r : Nat ⊕ List Nat) (hr : r = if l.length + 5 + s.size ≤ 1048576 then .inr (l ++ ([1] ++ be s.size 4 ++ tx s)) else .inl 2) :
    Calls Try.prog 26 #[v, .agg #[.int .i64 1, .int .u64 n, .string s, u], .int .i64 d] w (PutP r B v w) := by
  have HR : Hid (r = if l.length + 5 + s.size ≤ 1048576 then .inr (l ++ ([1] ++ be s.size 4 ++ tx s)) else .inl 2) := hr
  clear hr
  have hsm : (s.size : Int) % 18446744073709551616 = (s.size : Int) := by omega
  obtain ⟨w1, hw1⟩ : ∃ w1, w1 = w.alloc (.cells #[.int .i64 1, .int .u64 n, .string s, u] 25) := ⟨_, rfl⟩
  have hs1 : w1.heap.size = w.heap.size + 1 := by rw [hw1]; simp
  have o1 : OW w1 B v l := by rw [hw1]; exact h.alloc _
  have x1 : Bxc w1 w.heap.size 1 n s u := by rw [hw1]; exact Bxc.new w 1 n s u _
  have hfree : v.ownBlock ≠ some w.heap.size := fun e => by have := (h.2.lt _ e).2; omega
  have HK1 : Hid (∀ v' w', KO v v' w1 w' → KO v v' w w') := fun v' w' k => by rw [hw1] at k; exact k.alloc
  obtain ⟨a, cap, rfl⟩ := ownsRow_slice h.2
  have HX1 : Hid (Bxc w1 w.heap.size 1 n s u) := x1
  obtain ⟨_, c0, c1, c2, c3⟩ := x1
  have HO : Hid (OW w B (.slice a l.length cap) l) := h
  have o2 := o1.alloc (.cells #[.int .u8 (1 : Nat)] 5)
  have b2 := br_one w1 1 (by decide)
  clear h o1
  go_enter Try.func26, Try.ntmps26
  go_wp2_with (at_builtin; rw [← hw1]; refine wpList_append_brl rfl _ _ rfl B _ _ l [1] rfl rfl o2 (by rw [← hs1]; exact b2) (by simp) (by simp only [List.length_cons, List.length_nil]; omega) (by simp; omega) ?_)
  intro v2 w2 p2 g2
  rw [← hw1] at g2
  have g2a : KO (.slice a l.length cap) v2 w1 w2 := KO.alloc g2
  have hs2 := g2a.size
  have x2 := HX1.out.ko g2a hfree
  have hf2 := g2a.free (q := w.heap.size) (by omega) hfree
  have HG2 : Hid (KO (.slice a l.length cap) v2 w1 w2) := g2a
  have HX2 : Hid (Bxc w2 w.heap.size 1 n s u) := x2
  have HP2 : Hid (OW w2 B v2 (l ++ [1])) := p2
  obtain ⟨a2, cap2, rfl⟩ := ownsRow_slice p2.2
  have hl2 : (l ++ [1]).length = l.length + 1 := by simp
  rw [hl2] at HP2 HG2 hf2 ⊢
  have hby := rbytes_any s.size 4 w2 (by omega) (by decide)
  clear c0 c1 c2 c3 o2 b2 p2 g2 g2a hw1
  obtain ⟨_, c0, c1, c2, c3⟩ := x2
  go_wp2_with fail
  refine hby.mono ?_
  rintro e w3 ⟨v3, rfl, o3, hb3⟩
  have hs3 := hb3.size
  have p3 : OW w3 B (.slice a2 (l.length + 1) cap2) (l ++ [1]) := HP2.out.below hb3 (Nat.le_refl _)
  have HX3 : Hid (Bxc w3 w.heap.size 1 n s u) := HX2.out.below hb3
  have HG3 : Hid (KO (.slice a l.length cap) (.slice a2 (l.length + 1) cap2) w1 w3) := HG2.out.trans (KO.of hb3)
  have q3 := o3.br
  obtain ⟨a3, cap3, rfl⟩ := ownsRow_slice o3.2
  rw [be_length] at q3 ⊢
  clear hby o3 hb3 c0 c1 c2 c3
  go_wp2_with (at_builtin; refine wpList_append_brl rfl _ _ rfl B _ _ (l ++ [1]) (be s.size 4) rfl rfl p3 q3 (by rw [be_length]; decide) (by rw [hl2, be_length]; omega) (by omega) ?_)
  intro v4 w4 p4a g4
  have p4 : OW w4 B v4 (l ++ [1] ++ be s.size 4) := by rw [List.append_assoc]; exact p4a
  have hs4 := g4.size
  have x4 := HX3.out.ko g4 hf2
  have hf4 := g4.free (q := w.heap.size) (by omega) hf2
  have HG4 : Hid (KO (.slice a l.length cap) v4 w1 w4) := HG3.out.trans g4
  have HP4 : Hid (OW w4 B v4 (l ++ [1] ++ be s.size 4)) := p4
  have HX4 : Hid (Bxc w4 w.heap.size 1 n s u) := x4
  obtain ⟨a4, cap4, rfl⟩ := ownsRow_slice p4.2
  have hl4 : (l ++ [1] ++ be s.size 4).length = l.length + 1 + 4 := by simp [be_length]
  rw [hl4] at HP4 HG4 hf4 ⊢
  obtain ⟨_, c0, c1, c2, c3⟩ := x4
  clear p3 q3 p4 p4a g4
  by_cases cM : l.length + 5 + s.size ≤ 1048576
  · have cMi : ¬ (l.length : Int) + 1 + 4 + (s.size : Int) > 1048576 := by omega
    have cMj : ¬ (l.length : Int) + 1 + 4 + (s.size : Int) > 1048576 := by omega
    have p4 := HP4.out
    go_wp2_with (at_builtin; refine wpList_append_txt rfl _ _ rfl B _ (l ++ [1] ++ be s.size 4) s rfl rfl p4 (by rw [hl4]; omega) (by omega) ?_)
    intro v5 w5 p5a g5
    have p5 : OW w5 B v5 (l ++ [1] ++ be s.size 4 ++ tx s) := by simpa [List.append_assoc] using p5a
    have HG5 : Hid (KO (.slice a l.length cap) v5 w1 w5) := HG4.out.trans g5
    have x5 := HX4.out.ko g5 hf4
    have hl5 : (l ++ [1] ++ be s.size 4 ++ tx s).length = l.length + 1 + 4 + s.size := by simp [be_length, tx_length]; omega
    obtain ⟨a5, cap5, rfl⟩ := ownsRow_slice p5.2
    have HQ : Hid (PutP r B (.slice a l.length cap) w (.returned (.tuple #[.slice a5 (l.length + 1 + 4 + s.size) cap5, .int .i64 0])) w5) := by
      have hk := HK1.out _ _ HG5.out
      rw [hl5] at hk p5
      refine PutP.ok (m := l ++ ([1] ++ be s.size 4 ++ tx s)) (by rw [HR.out, if_pos cM]) (hk.below HO.out hB) ?_ hk (by simp [be_length, tx_length]; omega)
      simpa [List.append_assoc] using p5
    rw [hl5] at ⊢
    clear c0 c1 c2 c3 p4 p5 p5a g5
    obtain ⟨_, c0, c1, c2, c3⟩ := x5
    go_wp2_with fail
    go_loopw [0, 8] (fun t0 t8 wr => t0 = .slice a5 (l.length + 1 + 4 + s.size) cap5 ∧ t8 = .int .i64 0 ∧ wr = w5) (fun _ _ _ => 0)
    case atStart => exact ⟨rfl, rfl, rfl⟩
    case round =>
      obtain ⟨rfl, rfl, rfl⟩ := hrel
      go_wp2
      go_ret2
      exact HQ.out
  · have HQ : Hid (PutP r B (.slice a l.length cap) w (.returned (.tuple #[.slice none 0 0, .int .i64 2])) w4) := by
      have hk := HK1.out _ _ HG4.out
      exact PutP.err (by rw [HR.out, if_neg cM]) (hk.below HO.out hB)
    have cMi : (l.length : Int) + 1 + 4 + (s.size : Int) > 1048576 := by omega
    go_wp2
    go_ret2
    exact HQ.out

end Go.Proofs.Ytbkjghhghefejaa
