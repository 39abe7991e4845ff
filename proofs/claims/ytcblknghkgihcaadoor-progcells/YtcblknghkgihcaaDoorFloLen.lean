/-
  math/bits.Len64, walked.
-/
import Derived.Test.YtcblknghkgihcaaDoorFloWalk2
import Derived.Lib.BitFns
namespace Go.Proofs.YtcblknghkgihcaaDoor
set_option maxRecDepth 100000
open Go.RowKit Flo

theorem len8_get : ∀ n : Fin 256, Lib.len8tab[n.val]!.toNat = Lib.bitLen n.val := by decide +kernel
theorem len8_any (i : Nat) (h : i < Lib.len8tab.size) : Lib.len8tab[i].toNat = Lib.bitLen i := by
  have e : Lib.len8tab.size = 256 := by decide +kernel
  have := len8_get ⟨i, by omega⟩
  rw [← this, getElem!_pos]

theorem len_close (x k : Nat) (c : Int) (hx : x < 18446744073709551616) (h2 : x / 2 ^ k < 256) (h : k = 0 ∨ 2 ^ k ≤ x) (hk : k ≤ 56) (i : Nat) (hi : i < Lib.len8tab.size) (ei : i = x / 2 ^ k) (hc : c = k) :
    wrap64 (c + wrap64 (Lib.len8tab[i].toNat : Int)) = (Lib.bitLen x : Int) := by
  subst ei
  subst hc
  rw [len8_any]
  have l8 := Lib.bitLen_le8 ⟨x / 2 ^ k, h2⟩
  have s : Lib.bitLen x = k + Lib.bitLen (x / 2 ^ k) := by
    rcases h with h | h
    · subst h; simp
    · exact Lib.bitLen_shift k x h hx
  simp only at l8
  unfold wrap64
  omega

set_option maxRecDepth 100000 in
set_option maxHeartbeats 1000000 in
theorem len64_any (x : Int) (w : World) (h : U64 x) : Calls Tryd.prog 96 #[.int .u64 x] w fun e w' => e = .returned (.int .i64 (Lib.bitLen x.toNat)) ∧ w' = w := by
  obtain ⟨h0, h1⟩ := h
  have hs := Lib.len8tab_size
  go_enter Tryd.func96, Tryd.ntmps96
  go_wp2
  all_goals (go_ret; refine ⟨congrArg Ending.returned (congrArg (Value.int IntKind.i64) ?_), rfl⟩)
  all_goals first
    | exact len_close x.toNat 56 _ (by omega) (by omega) (by omega) (by omega) _ _ (by omega) rfl
    | exact len_close x.toNat 48 _ (by omega) (by omega) (by omega) (by omega) _ _ (by omega) rfl
    | exact len_close x.toNat 40 _ (by omega) (by omega) (by omega) (by omega) _ _ (by omega) rfl
    | exact len_close x.toNat 32 _ (by omega) (by omega) (by omega) (by omega) _ _ (by omega) rfl
    | exact len_close x.toNat 24 _ (by omega) (by omega) (by omega) (by omega) _ _ (by omega) rfl
    | exact len_close x.toNat 16 _ (by omega) (by omega) (by omega) (by omega) _ _ (by omega) rfl
    | exact len_close x.toNat 8 _ (by omega) (by omega) (by omega) (by omega) _ _ (by omega) rfl
    | exact len_close x.toNat 0 _ (by omega) (by omega) (by omega) (by omega) _ _ (by omega) rfl
    | (have k := len_close x.toNat 0 0 (by omega) (by omega) (by omega) (by omega) x.toNat (by omega) (by omega) rfl; rwa [Int.zero_add] at k)

end Go.Proofs.YtcblknghkgihcaaDoor
