/-
  Layer 7: the landed writer's cell, walked: a number, a text, what is no kind.
-/
import Derived.Test.YtbkjghhghefejaaCdEncM
import Derived.Deep.Light
namespace Go.Proofs.Ytbkjghhghefejaa
open Go.RowKit Crc

/-- What the writer does with a cell. -/
def Wrote (r : Nat ⊕ List Nat) (b B : Nat) (v : Value) (w : World) (e : Ending) (w' : World) : Prop :=
  match r with
  | .inl x => e = gaveUp x ∧ Below B w w'
  | .inr m => e = .returned (.tuple #[]) ∧ ∃ v', WR w' b B v' m ∧ Kept b v v' w w' ∧ m.length ≤ 1048576

theorem WR.own_lt {w : World} {b B : Nat} {v : Value} {l : List Nat} (h : WR w b B v l) : v.ownBlock ≠ some w.heap.size := fun e => by have := (h.ow.2.lt _ e).2; omega

theorem WR.base {w : World} {b B : Nat} {v : Value} {l : List Nat} (h : WR w b B v l) : B ≤ w.heap.size := by have := h.lo; have := h.lt; omega

set_option maxHeartbeats 1000000 in
theorem wcell_number (b B : Nat) (n : Nat) (s : ByteArray) (u wv : Value) (d : Int) (l : List Nat) (w : World) (h : WR w b B wv l) (hl : l.length ≤ 1048576) (r : Nat ⊕ List Nat) (hr : r = if l.length + 9 ≤ 1048576 then .inr (l ++ ([0] ++ be n 8)) else .inl 2) :
    Calls Try.prog 25 #[.pointer (some ⟨b, 0, none⟩), .agg #[.int .i64 0, .int .u64 n, .string s, u], .int .i64 d] w (Wrote r b B wv w) := by
  have hw1 := h.alloc (.cells #[.int .i64 0, .int .u64 n, .string s, u] 25)
  have hown := h.own_lt
  have hlt := h.lt
  have HB0 : Hid (Below B w (w.alloc (.cells #[.int .i64 0, .int .u64 n, .string s, u] 25))) := (Below.refl _ _).alloc h.base _
  by_cases c1 : l.length = 1048576
  · have HP : Hid (∀ w', Below B w w' → Wrote r b B wv w (gaveUp 2) w') := by
      intro w' hb
      rw [hr, if_neg (by omega)]
      exact ⟨rfl, hb⟩
    have hlay := lay_long b B 0 wv l _ hw1 c1
    clear h hw1 hr
    go_enter Try.func25, Try.ntmps25
    go_wp2_with fail
    refine hlay.mono ?_
    rintro e w2 ⟨rfl, rfl⟩
    have HQ : Hid _ := HP.out _ HB0.out
    clear hlay HP
    unfold gaveUp
    go_wp2
    exact ⟨rfl, HQ.out⟩
  · have hlay := lay_ok b B 0 wv l _ hw1 (by omega) (by decide)
    have HI : Hid (∀ v2 w2, WR w2 b B v2 (l ++ [0]) → Kept b wv v2 (w.alloc (.cells #[.int .i64 0, .int .u64 n, .string s, u] 25)) w2 → w2.cell? ⟨w.heap.size, 1, none⟩ = some (.int .u64 n)) := by
      intro v2 w2 k1 k2
      rw [k2.cell (by simp) (by omega) hown 1]
      simp
    by_cases c2 : l.length + 9 ≤ 1048576
    · have HN : Hid (∀ v2 w2, WR w2 b B v2 (l ++ [0]) → _) := fun v2 w2 k1 => number_ok b B n 8 v2 (l ++ [0]) w2 k1 (by rw [List.length_append]; simp; omega) (by decide)
      have HP : Hid (∀ w' v', WR w' b B v' (l ++ [0] ++ be n 8) → Kept b wv v' w w' → Wrote r b B wv w (.returned (.tuple #[])) w') := by
        intro w' v' k1 k2
        rw [hr, if_pos c2]
        exact ⟨rfl, v', by rw [← List.append_assoc]; exact k1, k2, by simp [be_length]; omega⟩
      clear h hw1 hr
      go_enter Try.func25, Try.ntmps25
      go_wp2_with fail
      refine hlay.mono ?_
      rintro e w2 ⟨rfl, v2, k1, k2⟩
      have hc := HI.out v2 w2 k1 k2
      have hnum := HN.out v2 w2 k1
      have HK : Hid _ := k2
      clear hlay k1 k2
      go_wp2_with fail
      refine hnum.mono ?_
      rintro e w3 ⟨rfl, v3, k1, k2⟩
      have HQ : Hid (Wrote r b B wv w (.returned (.tuple #[])) w3) := HP.out w3 v3 k1 (HK.out.trans k2).alloc
      clear hnum k1 k2 HP HK
      go_wp2
      go_end0
      exact HQ.out
    · have HN : Hid (∀ v2 w2, WR w2 b B v2 (l ++ [0]) → _) := fun v2 w2 k1 => number_long b B n 8 v2 (l ++ [0]) w2 k1 (by rw [List.length_append]; simp; omega) (by rw [List.length_append]; simp; omega) (by decide)
      have HP : Hid (∀ w', Below B w w' → Wrote r b B wv w (gaveUp 2) w') := by
        intro w' hb
        rw [hr, if_neg c2]
        exact ⟨rfl, hb⟩
      have HW1 : Hid _ := hw1
      clear h hw1 hr
      go_enter Try.func25, Try.ntmps25
      go_wp2_with fail
      refine hlay.mono ?_
      rintro e w2 ⟨rfl, v2, k1, k2⟩
      have hc := HI.out v2 w2 k1 k2
      have hnum := HN.out v2 w2 k1
      have HK : Hid _ := HB0.out.trans (k2.below HW1.out)
      clear hlay k1 k2
      go_wp2_with fail
      refine hnum.mono ?_
      rintro e w3 ⟨rfl, k1⟩
      have HQ : Hid _ := HP.out _ (HK.out.trans k1)
      clear hnum HP
      unfold gaveUp
      go_wp2
      exact ⟨rfl, HQ.out⟩

theorem WR.drew {w : World} {b B : Nat} {v : Value} {l : List Nat} (h : WR w b B v l) : WR w.drew b B v l := ⟨h.c, h.fz, h.ow, h.lo, h.lt, h.ne⟩
theorem Kept.undrew {b : Nat} {v v' : Value} {w w' : World} (h : Kept b v v' w.drew w') : Kept b v v' w w' := ⟨h.os, h.tape, h.output, h.size, h.block, h.own⟩
theorem ownsRow_slice {w : World} {B e s n : Nat} {v : Value} {xs : List Value} (h : w.ownsRow B e s v n xs) : ∃ a cap, v = .slice a n cap := by
  rcases h.2 with ⟨e, e2⟩ | ⟨g, cap, cur, e, _⟩
  · exact ⟨none, 0, by rw [e2]; exact e⟩
  · exact ⟨_, cap, e⟩

set_option maxHeartbeats 2000000 in
theorem wcell_text (b B : Nat) (n : Nat) (s : ByteArray) (u wv : Value) (d : Int) (l : List Nat) (w : World) (h : WR w b B wv l) (hl : l.length ≤ 1048576) (hs : s.size ≤ 9223372036854775807) (r : Nat ⊕ List Nat) (hr : r = if l.length + 5 + s.size ≤ 1048576 then .inr (l ++ ([1] ++ be s.size 4 ++ tx s)) else .inl 2) :
    Calls Try.prog 25 #[.pointer (some ⟨b, 0, none⟩), .agg #[.int .i64 1, .int .u64 n, .string s, u], .int .i64 d] w (Wrote r b B wv w) := by
  have hw1 := h.alloc (.cells #[.int .i64 1, .int .u64 n, .string s, u] 25)
  have hown := h.own_lt
  have hlt := h.lt
  obtain ⟨i0, hi, hz0, hz1, hz2⟩ := info_parts info8
  have hsm : (s.size : Int) % 18446744073709551616 = (s.size : Int) := by omega
  have HB0 : Hid (Below B w (w.alloc (.cells #[.int .i64 1, .int .u64 n, .string s, u] 25))) := (Below.refl _ _).alloc h.base _
  have HI : Hid (∀ v2 w2, Kept b wv v2 (w.alloc (.cells #[.int .i64 1, .int .u64 n, .string s, u] 25)) w2 → w2.cell? ⟨w.heap.size, 2, none⟩ = some (.string s)) := by
    intro v2 w2 k2
    rw [k2.cell (by simp) (by omega) hown 2]
    simp
  have HR : Hid (r = if l.length + 5 + s.size ≤ 1048576 then .inr (l ++ ([1] ++ be s.size 4 ++ tx s)) else .inl 2) := hr
  have HG : Hid (1048576 < l.length + 5 + s.size → ∀ w', Below B w w' → Wrote r b B wv w (gaveUp 2) w') := by
    intro c w' hb
    rw [hr, if_neg (by omega)]
    exact ⟨rfl, hb⟩
  have HW1 : Hid _ := hw1
  by_cases c1 : l.length = 1048576
  · have hlay := lay_long b B 1 wv l _ hw1 c1
    clear h hw1 hr
    go_enter Try.func25, Try.ntmps25
    go_wp2_with fail
    refine hlay.mono ?_
    rintro e w2 ⟨rfl, rfl⟩
    have HQ : Hid (Wrote r b B wv w (gaveUp 2) _) := HG.out (by omega) _ HB0.out
    clear hlay
    unfold gaveUp
    go_wp2
    exact ⟨rfl, HQ.out⟩
  · have hlay := lay_ok b B 1 wv l _ hw1 (by omega) (by decide)
    by_cases c2 : l.length + 5 ≤ 1048576
    · have HN : Hid (∀ v2 w2, WR w2 b B v2 (l ++ [1]) → _) := fun v2 w2 k1 => number_ok b B s.size 4 v2 (l ++ [1]) w2 k1 (by rw [List.length_append]; simp; omega) (by decide)
      clear h hw1 hr
      go_enter Try.func25, Try.ntmps25
      go_wp2_with fail
      refine hlay.mono ?_
      rintro e w2 ⟨rfl, v2, k1, k2⟩
      have hc := HI.out v2 w2 k2
      have hnum := HN.out v2 w2 k1
      have HK : Hid (Kept b wv v2 _ w2) := k2
      clear hlay k1 k2
      go_wp2_with fail
      refine hnum.mono ?_
      rintro e w3 ⟨rfl, v3, k1, k2⟩
      have HK3 : Hid (Kept b wv v3 _ w3) := HK.out.trans k2
      have hc3 := HI.out v3 w3 HK3.out
      have HW3 : Hid (WR w3 b B v3 (l ++ [1] ++ be s.size 4)) := k1
      have hlen : (l ++ [1] ++ be s.size 4).length = l.length + 5 := by simp [be_length]
      clear hnum k1 k2 hc HK
      by_cases c3 : l.length + 5 + s.size ≤ 1048576
      · have hroom := room_ok b B s.size v3 _ w3 HW3.out (by omega)
        go_wp2_with fail
        refine hroom.mono ?_
        rintro e w4 ⟨rfl, rfl⟩
        have hcb := HW3.out.c
        have hbase : B ≤ w4.heap.size := HW3.out.base
        have ho := HW3.out.ow.2
        obtain ⟨a3, cap3, rfl⟩ := ownsRow_slice ho
        clear hroom
        have HP : Hid (∀ (v' : Value) (w5 : World), w5.ownsRow B 5 1 v' ((l ++ [1] ++ be s.size 4).length + s.size) (c8 (l ++ [1] ++ be s.size 4) ++ Lib.strCells s) → w4.drew.grownBy w5 (Value.slice a3 (l ++ [1] ++ be s.size 4).length cap3).ownBlock → (∀ k, v'.ownBlock = some k → (Value.slice a3 (l ++ [1] ++ be s.size 4).length cap3).ownBlock = some k ∨ k = w4.drew.heap.size) →
            w5.cell? ⟨b, 0, none⟩ = some (.slice a3 (l ++ [1] ++ be s.size 4).length cap3) ∧ w5.frozen? ⟨b, 0, none⟩ = false ∧ Wrote r b B wv w (.returned (.tuple #[])) (w5.setCell ⟨b, 0, none⟩ v')) := by
          intro v' w5 q1 q2 q3
          obtain ⟨y1, y2, y3, y4⟩ := HW3.out.drew.more (tx_sm s) (by rw [tx_length, ← tx_cells]; exact q1) q2 q3
          refine ⟨y1, y2, ?_⟩
          rw [HR.out, if_pos c3]
          refine ⟨rfl, v', ?_, (HK3.out.trans y4.undrew).alloc, ?_⟩
          · simpa [List.append_assoc] using y3
          · simp [be_length, tx_length]; omega
        generalize (l ++ [1] ++ be s.size 4) = L at *
        have hL1 : L.length + s.size ≤ maxLen := by unfold maxLen; omega
        have hL2 : L.length + s.size ≤ 140737488355328 := by omega
        clear hlen
        have hoD : w4.drew.ownsRow B 5 1 (.slice a3 L.length cap3) L.length (c8 L) := ho
        go_wp2_with fail
        go_region_law (refine step_append_text rfl (.tmp 38) (.tmp 40) 28 9 rfl B 5 i0 Try.underlying28 Try.underlying9 hi hz0 hz1 hz2 (.slice a3 L.length cap3) L.length (c8 L) (by simp [Act.eval]) hoD s (by simp [Act.eval]) hL1 hL2 hbase ?_; intro v' w5 q1 q2 q3; obtain ⟨y1, y2, y3⟩ := HP.out v' w5 q1 q2 q3; obtain ⟨a5, cap5, rfl⟩ := ownsRow_slice q1; have HQ : Hid (Wrote r b B wv w (.returned (.tuple #[])) (w5.setCell ⟨b, 0, none⟩ (.slice a5 (L.length + s.size) cap5))) := y3; clear q1 q2 q3 y3)
        all_goals go_wp2
        all_goals go_end0
        all_goals exact HQ.out
      · have hroom := room_long b B s.size v3 _ w3 HW3.out (by omega) (by omega)
        have HQ : Hid (Wrote r b B wv w (gaveUp 2) w3) := HG.out (by omega) _ (HB0.out.trans (HK3.out.below HW1.out))
        go_wp2_with fail
        refine hroom.mono ?_
        rintro e w4 ⟨rfl, rfl⟩
        clear hroom
        unfold gaveUp
        go_wp2
        exact ⟨rfl, HQ.out⟩
    · have HN : Hid (∀ v2 w2, WR w2 b B v2 (l ++ [1]) → _) := fun v2 w2 k1 => number_long b B s.size 4 v2 (l ++ [1]) w2 k1 (by rw [List.length_append]; simp; omega) (by rw [List.length_append]; simp; omega) (by decide)
      clear h hw1 hr
      go_enter Try.func25, Try.ntmps25
      go_wp2_with fail
      refine hlay.mono ?_
      rintro e w2 ⟨rfl, v2, k1, k2⟩
      have hc := HI.out v2 w2 k2
      have hnum := HN.out v2 w2 k1
      have HK : Hid (Below B w w2) := HB0.out.trans (k2.below HW1.out)
      clear hlay k1 k2
      go_wp2_with fail
      refine hnum.mono ?_
      rintro e w3 ⟨rfl, k1⟩
      have HQ : Hid (Wrote r b B wv w (gaveUp 2) w3) := HG.out (by omega) _ (HK.out.trans k1)
      clear hnum
      unfold gaveUp
      go_wp2
      exact ⟨rfl, HQ.out⟩

set_option maxHeartbeats 400000 in
theorem wcell_bad (b B : Nat) (k : Int) (n : Nat) (s : ByteArray) (u wv : Value) (d : Int) (l : List Nat) (w : World) (h : WR w b B wv l) (k0 : ¬ k = 0) (k1 : ¬ k = 1) (k2 : ¬ k = 2) :
    Calls Try.prog 25 #[.pointer (some ⟨b, 0, none⟩), .agg #[.int .i64 k, .int .u64 n, .string s, u], .int .i64 d] w (Wrote (.inl 1) b B wv w) := by
  have HB0 : Hid (Below B w (w.alloc (.cells #[.int .i64 k, .int .u64 n, .string s, u] 25))) := (Below.refl _ _).alloc h.base _
  clear h
  go_enter Try.func25, Try.ntmps25
  go_wp2
  exact ⟨rfl, rfl, HB0.out⟩

end Go.Proofs.Ytbkjghhghefejaa
