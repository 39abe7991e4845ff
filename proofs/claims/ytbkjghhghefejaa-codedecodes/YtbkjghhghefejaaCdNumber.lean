/-
  Layer 7: the landed writer's number, walked where there is room.
-/
import Derived.Test.YtbkjghhghefejaaCdLay
namespace Go.Proofs.Ytbkjghhghefejaa
open Go.RowKit Crc

/-- A number in so many bytes, the highest first. -/
def be (n : Nat) : Nat → List Nat
  | 0 => []
  | k + 1 => n / 2 ^ (8 * k) % 256 :: be n k

theorem be_length (n : Nat) : ∀ k, (be n k).length = k
  | 0 => rfl
  | k + 1 => by unfold be; rw [List.length_cons, be_length n k]

set_option maxHeartbeats 1000000 in
theorem number_ok (b B n s : Nat) (v : Value) (l : List Nat) (w : World) (h : WR w b B v l) (hl : l.length + s ≤ 1048576) (hs : s ≤ 8) :
    Calls Try.prog 33 #[.pointer (some ⟨b, 0, none⟩), .int .u64 n, .int .i64 s] w fun e w' => e = .returned (.tuple #[]) ∧ ∃ v', WR w' b B v' (l ++ be n s) ∧ Kept b v v' w w' := by
  have H : Hid (WR w b B v l) := h
  clear h
  go_enter Try.func33, Try.ntmps33
  go_wp2_with fail
  go_loopw [6] (fun t6 wr => ∃ (j : Nat), j ≤ s ∧ t6 = .int .i64 ((j : Int) - 1) ∧ Hid (∃ v' m, WR wr b B v' (l ++ m) ∧ m.length + j = s ∧ m ++ be n j = be n s ∧ Kept b v v' w wr)) (fun t6 _ => (intOf t6 + 1).toNat)
  case atStart => exact ⟨s, Nat.le_refl _, by go_num, ⟨v, [], by rw [List.append_nil]; exact H.out, by simp, rfl, Kept.refl _ _ _⟩⟩
  case round =>
    obtain ⟨j, hj, rfl, HI⟩ := hrel
    cases j with
    | zero =>
      have HQ : Hid (∃ v', WR wr b B v' (l ++ be n s) ∧ Kept b v v' w wr) := by
        obtain ⟨v', m, h1, h2, h3, h4⟩ := HI.out
        have e : m = be n s := by rw [← h3]; unfold be; rw [List.append_nil]
        exact ⟨v', e ▸ h1, h4⟩
      go_wp2
      go_end0
      exact ⟨rfl, HQ.out⟩
    | succ j =>
      obtain ⟨v', m, h1, h2, h3, h4⟩ := HI.out
      have hlay := lay_ok b B (n / 2 ^ (8 * j) % 256) v' (l ++ m) wr h1 (by rw [List.length_append]; omega) (Nat.mod_lt _ (by decide))
      have HW : Hid (∀ v2 w2, WR w2 b B v2 (l ++ m ++ [n / 2 ^ (8 * j) % 256]) → Kept b v' v2 wr w2 → ∃ v' m, WR w2 b B v' (l ++ m) ∧ m.length + j = s ∧ m ++ be n j = be n s ∧ Kept b v v' w w2) := by
        intro v2 w2 k1 k2
        refine ⟨v2, m ++ [n / 2 ^ (8 * j) % 256], by rw [← List.append_assoc]; exact k1, by rw [List.length_append]; simp; omega, ?_, h4.trans k2⟩
        rw [List.append_assoc, ← h3]; rfl
      clear h1 h2 h3 h4
      obtain ⟨k, hk⟩ : ∃ k, k = 8 * j := ⟨_, rfl⟩
      have e8 : (8 : Int) * (j : Int) = (k : Int) := by omega
      have hk2 : k < 64 := by omega
      rw [← hk] at hlay HW
      obtain ⟨q, hq⟩ : ∃ q, q = n / 2 ^ k := ⟨_, rfl⟩
      have hqi : (n : Int) / 2 ^ k = (q : Int) := by rw [hq]; simp
      obtain ⟨r, hr⟩ : ∃ r, r = q % 256 := ⟨_, rfl⟩
      have hqm : (q : Int) % 256 = (r : Int) := by omega
      rw [← hq, ← hr] at hlay HW
      have hj2 : j < 8 := by omega
      rw [show ((j + 1 : Nat) : Int) - 1 = (j : Int) by omega] at *
      clear hk hq hr
      go_wp2_with fail
      refine hlay.mono ?_
      rintro e w2 ⟨rfl, v2, k1, k2⟩
      have HQ : Hid _ := HW.out v2 w2 k1 k2
      clear k1 k2 hlay
      go_wp2
      go_roundw
      case rel => exact ⟨j, by omega, by go_num, HQ⟩
      case measure => simp [intOf]

end Go.Proofs.Ytbkjghhghefejaa
