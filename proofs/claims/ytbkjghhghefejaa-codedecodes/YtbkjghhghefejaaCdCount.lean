/-
  Layer 7: the landed reader's number and count, walked where there is enough.
-/
import Derived.Test.YtbkjghhghefejaaCdTake
namespace Go.Proofs.Ytbkjghhghefejaa
open Go.RowKit Crc

/-- The number that bytes are, the highest first. -/
def nb (l : List Nat) : Nat := l.foldl (fun n d => n * 256 + d) 0

theorem nb_snoc (l : List Nat) (d : Nat) : nb (l ++ [d]) = nb l * 256 + d := by unfold nb; rw [List.foldl_append]; rfl

theorem nb_take (l : List Nat) (i : Nat) (h : i < l.length) : nb (l.take (i + 1)) = nb (l.take i) * 256 + l.getD i 0 := by
  rw [List.take_succ_eq_append_getElem h, nb_snoc]
  congr 1
  simp [h]

theorem nb_lt {l : List Nat} (hs : Sm8 l) : ∀ i, i ≤ l.length → nb (l.take i) < 256 ^ i
  | 0, _ => by simp [nb]
  | i + 1, h => by
    rw [nb_take l i (by omega)]
    have h1 := nb_lt hs i (by omega)
    have h2 := hs.getD i
    rw [Nat.pow_succ]
    omega

theorem or8 (n d : Nat) (hn : n < 72057594037927936) (hd : d < 256) : bits .or .u64 ((n : Int) * 256) (d : Int) = ((n * 256 + d : Nat) : Int) := by
  have h := bits_or_u64_nat (n * 256) d (by omega) (by omega)
  rw [show ((n * 256 : Nat) : Int) = (n : Int) * 256 by omega] at h
  rw [h]
  congr 1
  rw [show n * 256 = 2 ^ 8 * n by omega, Nat.two_pow_add_eq_or_of_lt (i := 8) (b := d) (by omega) n]

set_option maxHeartbeats 1000000 in
theorem rnumber_ok (b H s : Nat) (v : Value) (l : List Nat) (w : World) (h : RD w b H v l) (hs : s ≤ l.length) (hs8 : s ≤ 8) :
    Calls Try.prog 37 #[.pointer (some ⟨b, 0, none⟩), .int .i64 s] w fun e w' => e = .returned (.int .u64 (nb (l.take s) : Nat)) ∧ ∃ v2, w' = w.setCell ⟨b, 0, none⟩ v2 ∧ RD w' b H v2 (l.drop s) := by
  have htake := take_ok b H s v l w h hs
  have HL : Hid ((l.take s).length = s) := by show _ = _; rw [List.length_take]; omega
  clear h
  go_enter Try.func37, Try.ntmps37
  go_wp2_with fail
  refine htake.mono ?_
  rintro e w1 ⟨v1, v2, rfl, hw, hb, hr⟩
  have HQ : Hid (∃ v2, w1 = w.setCell ⟨b, 0, none⟩ v2 ∧ RD w1 b H v2 (l.drop s)) := ⟨v2, hw, hr⟩
  clear hr htake hw
  have HB : Hid (BR w1 v1 (l.take s)) := hb
  obtain ⟨m, hm⟩ : ∃ m, m = l.take s := ⟨_, rfl⟩
  have HM : Hid (m = l.take s) := hm
  rw [← hm] at HL hb HB
  clear hm
  obtain ⟨a, cap, rfl, k1, k2⟩ : ∃ a cap, v1 = .slice a s cap ∧ s ≤ cap ∧ cap ≤ maxLen := by
    obtain ⟨_, a, cap, e, k1, k2, _⟩ := hb; rw [HL.out] at e k1; exact ⟨a, cap, e, k1, k2⟩
  unfold maxLen at k2
  clear hb hs
  go_wp2_with fail
  go_loop [5, 12] (fun t5 t12 => ∃ i : Nat, i ≤ s ∧ t12 = .int .i64 i ∧ t5 = .int .u64 (nb (m.take i) : Nat)) (fun _ t12 => s - (intOf t12).toNat)
  case atStart => exact ⟨0, Nat.zero_le _, rfl, rfl⟩
  case round =>
    obtain ⟨i, hi, rfl, rfl⟩ := hrel
    by_cases c : i < s
    · obtain ⟨x, rfl, hcell, hd⟩ := HB.out.cell (i := i) (by rw [HL.out]; exact c)
      have hN := nb_take m i (by rw [HL.out]; exact c)
      have hlt : nb (m.take i) < 72057594037927936 := Nat.lt_of_lt_of_le (nb_lt HB.out.1 i (by rw [HL.out]; omega)) (Nat.pow_le_pow_right (n := 256) (j := 7) (by decide) (by omega))
      have ho := or8 (nb (m.take i)) (m.getD i 0) hlt hd
      rw [← hN] at ho
      clear hN
      obtain ⟨N', hN'⟩ : ∃ N', N' = nb (m.take (i + 1)) := ⟨_, rfl⟩
      have HN : Hid (N' = nb (m.take (i + 1))) := hN'
      rw [← hN'] at ho
      clear hN'
      generalize nb (m.take i) = N at *
      generalize m.getD i 0 = d at *
      have hci : (i : Int) < (s : Int) := by omega
      go_wp2
      go_round
      case rel => exact ⟨i + 1, by omega, by go_num, by rw [HN.out]⟩
      case measure => simp [intOf]; omega
    · have e : i = s := by omega
      subst e
      have em : m.take i = l.take i := by rw [HM.out, List.take_take, Nat.min_self]
      rw [em]
      have hci : ¬ (i : Int) < (i : Int) := by omega
      go_wp2
      go_ret
      exact ⟨rfl, HQ.out⟩

set_option maxHeartbeats 400000 in
theorem count_ok (b H : Nat) (v : Value) (l : List Nat) (w : World) (h : RD w b H v l) (hs : 4 ≤ l.length) (hc : nb (l.take 4) ≤ l.length - 4) (hl : l.length ≤ 1048576) :
    Calls Try.prog 38 #[.pointer (some ⟨b, 0, none⟩)] w fun e w' => e = .returned (.int .i64 (nb (l.take 4) : Nat)) ∧ ∃ v2, w' = w.setCell ⟨b, 0, none⟩ v2 ∧ RD w' b H v2 (l.drop 4) := by
  have hnum := rnumber_ok b H 4 v l w h hs (by decide)
  clear h
  go_enter Try.func38, Try.ntmps38
  go_wp2_with fail
  refine hnum.mono ?_
  rintro e w1 ⟨rfl, v2, hw, hr⟩
  have HQ : Hid (∃ v2, w1 = w.setCell ⟨b, 0, none⟩ v2 ∧ RD w1 b H v2 (l.drop 4)) := ⟨v2, hw, hr⟩
  have hcell := hr.c
  obtain ⟨a, n, cap, rfl, k1⟩ : ∃ a n cap, v2 = .slice a n cap ∧ n = l.length - 4 := by
    obtain ⟨_, a, cap, e, _⟩ := hr.br; exact ⟨a, _, cap, e, by rw [List.length_drop]⟩
  clear hr hnum hw
  have hn1 : ¬ ((nb (l.take 4) : Nat) : Int) > (n : Int) := by omega
  have hn2 : n ≤ 1048576 := by omega
  have hn3 : nb (l.take 4) ≤ 1048576 := by omega
  have hn4 : (n : Int) % 18446744073709551616 = (n : Int) := by omega
  go_wp2
  go_ret
  exact ⟨rfl, HQ.out⟩

end Go.Proofs.Ytbkjghhghefejaa
