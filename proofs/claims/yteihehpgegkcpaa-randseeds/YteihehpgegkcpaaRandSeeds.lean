/-
  Layer 16: RandSeeds, walked.
-/
import Derived.Test.YteihehpgegkcpaaRdWalk
namespace Go.Proofs.Yteihehpgegkcpaa
open Go.RowKit

def rbyte (S : ByteArray) (i : Nat) : Int := if h : i < S.size then IntKind.u64.wrap ((S[i].toNat : Nat) : Int) else 0
/-- The state that the first i bytes come to. -/
def rseed (S : ByteArray) : Nat → Int
  | 0 => 0
  | i + 1 => rmix (rst (bits BinOp.xor IntKind.u64 (rseed S i) (rbyte S i)))
theorem rseed_next (S : ByteArray) (i : Nat) (h : i < S.size) : rseed S (i + 1) = rmix (rst (bits BinOp.xor IntKind.u64 (rseed S i) (IntKind.u64.wrap ((S[i].toNat : Nat) : Int)))) := by
  rw [rseed, rbyte, dif_pos h]

theorem seed_any (S : ByteArray) (w : World) (hS : S.size ≤ 9223372036854775807) : Calls Try.prog 17 #[.string S] w fun e w' => e = .returned (.int .u64 (rseed S S.size)) ∧ w' = w := by
  go_enter Try.func17, Try.ntmps17
  go_wp2_with fail
  go_loopw [3, 7] (fun t3 t7 wr => ∃ i : Nat, i ≤ S.size ∧ t7 = .int .i64 i ∧ t3 = .int .u64 (rseed S i) ∧ wr = w) (fun _ t7 _ => S.size - (intOf t7).toNat)
  case atStart => exact ⟨0, Nat.zero_le _, rfl, rfl, rfl⟩
  case round =>
    obtain ⟨i, hi, rfl, rfl, rfl⟩ := hrel
    by_cases hil : i < S.size
    · have HE : Hid (rseed S (i + 1) = _) := rseed_next S i hil
      go_wp2_with fail
      refine (next_any _ _).mono ?_
      rintro e w5 ⟨rfl, rfl⟩
      go_wp2_with fail
      have e := HE.out
      exact ⟨⟨i + 1, hil, rfl, by rw [e], trivial⟩, by simp [intOf]; omega⟩
    · have he : i = S.size := by omega
      subst he
      go_wp2
      go_ret
      exact ⟨rfl, rfl⟩
theorem refSeed_any (S : ByteArray) (w : World) (hS : S.size ≤ 9223372036854775807) : Calls Try.prog 18 #[.string S] w fun e w' => e = .returned (.int .u64 (rseed S S.size)) ∧ w' = w := by
  go_enter Try.func18, Try.ntmps18
  go_wp2_with fail
  go_loopw [3, 4] (fun t3 t4 wr => ∃ i : Nat, i ≤ S.size ∧ t4 = .int .i64 i ∧ t3 = .int .u64 (rseed S i) ∧ wr = w) (fun _ t4 _ => S.size - (intOf t4).toNat)
  case atStart => exact ⟨0, Nat.zero_le _, rfl, rfl, rfl⟩
  case round =>
    obtain ⟨i, hi, rfl, rfl, rfl⟩ := hrel
    by_cases hil : i < S.size
    · have HE : Hid (rseed S (i + 1) = _) := rseed_next S i hil
      go_wp2_with fail
      refine (rnext_any _ _).mono ?_
      rintro e w5 ⟨rfl, rfl⟩
      go_wp2_with fail
      have e := HE.out
      exact ⟨⟨i + 1, hil, rfl, by rw [e], trivial⟩, by simp [intOf]; omega⟩
    · have he : i = S.size := by omega
      subst he
      go_wp2
      go_ret
      exact ⟨rfl, rfl⟩
theorem randSeeds_walk (S : ByteArray) (w : World) (hS : S.size ≤ 9223372036854775807) : Calls Try.prog 6 #[.string S] w fun e w' => e = .returned (.bool true) ∧ w' = w := by
  have n1 := seed_any S w hS
  have n2 := refSeed_any S w hS
  generalize rseed S S.size = R at *
  go_enter Try.func6, Try.ntmps6
  go_wp2_with fail
  refine n1.mono ?_
  rintro e w' ⟨rfl, rfl⟩
  go_wp2_with fail
  refine n2.mono ?_
  rintro e w' ⟨rfl, rfl⟩
  go_wp2_with fail
  refine (rlives_any _).mono ?_
  rintro e w' ⟨rfl, rfl⟩
  go_wp2
  go_ret
  exact ⟨rfl, rfl⟩
theorem randSeeds_below (S : ByteArray) (w : World) (hS : S.size ≤ 140737488351232) : Calls Try.prog 6 #[.string S] w fun e w' => e = .returned (.bool true) ∧ Below w.heap.size w w' :=
  (randSeeds_walk S w (by omega)).mono fun e w' ⟨he, hw⟩ => ⟨he, hw ▸ Below.refl _ _⟩
end Go.Proofs.Yteihehpgegkcpaa
