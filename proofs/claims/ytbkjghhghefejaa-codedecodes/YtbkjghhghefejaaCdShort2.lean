/-
  Layer 7: what the landed reader's number and count give up, and the writer's number.
-/
import Derived.Test.YtbkjghhghefejaaCdShort
namespace Go.Proofs.Ytbkjghhghefejaa
open Go.RowKit Crc

set_option maxHeartbeats 400000 in
theorem rnumber_short (b H s : Nat) (v : Value) (l : List Nat) (w : World) (h : RD w b H v l) (hs : l.length < s) :
    Calls Try.prog 37 #[.pointer (some ⟨b, 0, none⟩), .int .i64 s] w fun e w' => e = gaveUp 3 ∧ w' = w := by
  have htake := take_short b H s v l w h hs
  clear h
  go_enter Try.func37, Try.ntmps37
  go_wp2_with fail
  refine htake.mono ?_
  rintro e w1 ⟨rfl, rfl⟩
  unfold gaveUp
  go_wp2
  exact ⟨rfl, rfl, rfl⟩

set_option maxHeartbeats 400000 in
theorem count_short (b H : Nat) (v : Value) (l : List Nat) (w : World) (h : RD w b H v l) (hs : l.length < 4) :
    Calls Try.prog 38 #[.pointer (some ⟨b, 0, none⟩)] w fun e w' => e = gaveUp 3 ∧ w' = w := by
  have htake := rnumber_short b H 4 v l w h hs
  clear h
  go_enter Try.func38, Try.ntmps38
  go_wp2_with fail
  refine htake.mono ?_
  rintro e w1 ⟨rfl, rfl⟩
  unfold gaveUp
  go_wp2
  exact ⟨rfl, rfl, rfl⟩

set_option maxHeartbeats 400000 in
theorem count_over (b H : Nat) (v : Value) (l : List Nat) (w : World) (h : RD w b H v l) (hs : 4 ≤ l.length) (hc : l.length - 4 < nb (l.take 4)) (hl : l.length ≤ 1048576) :
    Calls Try.prog 38 #[.pointer (some ⟨b, 0, none⟩)] w fun e w' => e = gaveUp 3 ∧ ∃ v2, w' = w.setCell ⟨b, 0, none⟩ v2 := by
  have hnum := rnumber_ok b H 4 v l w h hs (by decide)
  clear h
  go_enter Try.func38, Try.ntmps38
  go_wp2_with fail
  refine hnum.mono ?_
  rintro e w1 ⟨rfl, v2, hw, hr⟩
  have HQ : Hid (∃ v2, w1 = w.setCell ⟨b, 0, none⟩ v2) := ⟨v2, hw⟩
  have hcell := hr.c
  obtain ⟨a, n, cap, rfl, k1⟩ : ∃ a n cap, v2 = .slice a n cap ∧ n = l.length - 4 := by
    obtain ⟨_, a, cap, e, _⟩ := hr.br; exact ⟨a, _, cap, e, by rw [List.length_drop]⟩
  clear hr hnum hw
  have hn1 : ((nb (l.take 4) : Nat) : Int) > (n : Int) := by omega
  have hn2 : n ≤ 1048576 := by omega
  have hn4 : (n : Int) % 18446744073709551616 = (n : Int) := by omega
  go_wp2
  exact ⟨rfl, rfl, HQ.out⟩

set_option maxHeartbeats 1000000 in
theorem number_long (b B n s : Nat) (v : Value) (l : List Nat) (w : World) (h : WR w b B v l) (hl : 1048576 < l.length + s) (hl2 : l.length ≤ 1048576) (hs : s ≤ 8) :
    Calls Try.prog 33 #[.pointer (some ⟨b, 0, none⟩), .int .u64 n, .int .i64 s] w fun e w' => e = gaveUp 2 ∧ Below B w w' := by
  have H : Hid (WR w b B v l) := h
  clear h
  go_enter Try.func33, Try.ntmps33
  go_wp2_with fail
  go_loopw [6] (fun t6 wr => ∃ (j : Nat), j ≤ s ∧ t6 = .int .i64 ((j : Int) - 1) ∧ Hid (∃ v' m, WR wr b B v' (l ++ m) ∧ m.length + j = s ∧ l.length + m.length ≤ 1048576 ∧ Below B w wr)) (fun t6 _ => (intOf t6 + 1).toNat)
  case atStart => exact ⟨s, Nat.le_refl _, by go_num, ⟨v, [], by rw [List.append_nil]; exact H.out, by simp, by simpa using hl2, Below.refl _ _⟩⟩
  case round =>
    obtain ⟨j, hj, rfl, HI⟩ := hrel
    cases j with
    | zero =>
      exfalso
      obtain ⟨v', m, h1, h2, h3, h4⟩ := HI.out
      omega
    | succ j =>
      obtain ⟨v', m, h1, h2, h3, h4⟩ := HI.out
      obtain ⟨k, hk⟩ : ∃ k, k = 8 * j := ⟨_, rfl⟩
      have e8 : (8 : Int) * (j : Int) = (k : Int) := by omega
      have hk2 : k < 64 := by omega
      obtain ⟨q, hq⟩ : ∃ q, q = n / 2 ^ k := ⟨_, rfl⟩
      have hqi : (n : Int) / 2 ^ k = (q : Int) := by rw [hq]; simp
      obtain ⟨r, hr⟩ : ∃ r, r = q % 256 := ⟨_, rfl⟩
      have hqm : (q : Int) % 256 = (r : Int) := by omega
      have hj2 : j < 8 := by omega
      rw [show ((j + 1 : Nat) : Int) - 1 = (j : Int) by omega] at *
      by_cases c : l.length + m.length = 1048576
      · have hlay := lay_long b B r v' (l ++ m) wr h1 (by rw [List.length_append]; omega)
        have HB : Hid (Below B w wr) := h4
        clear h1 h2 h3 h4 hk hq hr
        go_wp2_with fail
        refine hlay.mono ?_
        rintro e w2 ⟨rfl, rfl⟩
        unfold gaveUp
        go_wp2
        exact ⟨rfl, rfl, HB.out⟩
      · have hlay := lay_ok b B r v' (l ++ m) wr h1 (by rw [List.length_append]; omega) (by omega)
        have HW : Hid (∀ v2 w2, WR w2 b B v2 (l ++ m ++ [r]) → Kept b v' v2 wr w2 → ∃ v' m, WR w2 b B v' (l ++ m) ∧ m.length + j = s ∧ l.length + m.length ≤ 1048576 ∧ Below B w w2) := by
          intro v2 w2 k1 k2
          exact ⟨v2, m ++ [r], by rw [← List.append_assoc]; exact k1, by rw [List.length_append]; simp; omega, by rw [List.length_append]; simp; omega, h4.trans (k2.below h1)⟩
        clear h1 h2 h3 h4 hk hq hr
        go_wp2_with fail
        refine hlay.mono ?_
        rintro e w2 ⟨rfl, v2, k1, k2⟩
        have HQ : Hid _ := HW.out v2 w2 k1 k2
        clear k1 k2 hlay
        go_wp2
        go_roundw
        case rel => exact ⟨j, by omega, by go_num, HQ⟩
        case measure => simp [intOf]

end Go.Proofs.Ytbkjghhghefejaa
