/-
  math/bits.Len64, walked.
-/
import Derived.Test.YteihehpgegkcpaaFloWalk2
import Derived.Lib.BitFns
namespace Go.Proofs.Yteihehpgegkcpaa
open Go.RowKit Flo

theorem len8_get : ∀ n : Fin 256, Lib.len8tab[n.val]!.toNat = Lib.bitLen n.val := by decide +kernel
theorem len8_any (i : Nat) (h : i < Lib.len8tab.size) : Lib.len8tab[i].toNat = Lib.bitLen i := by
  have e : Lib.len8tab.size = 256 := by decide +kernel
  have := len8_get ⟨i, by omega⟩
  rw [← this, getElem!_pos]

theorem len_close (x k : Nat) (c : Int) (hx : x < 18446744073709551616) (h2 : x / 2 ^ k < 256) (h : k = 0 ∨ 2 ^ k ≤ x) (hk : k ≤ 56) (i : Nat) (hi : i < Lib.len8tab.size) (ei : i = x / 2 ^ k) (hc : c = k) :
    wrap64 (c + wrap64 (Lib.len8tab[i].toNat : Int)) = (Lib.bitLen x : Int) := by
  subst ei
  subst hc
  rw [len8_any]
  have l8 := Lib.bitLen_le8 ⟨x / 2 ^ k, h2⟩
  have s : Lib.bitLen x = k + Lib.bitLen (x / 2 ^ k) := by
    rcases h with h | h
    · subst h; simp
    · exact Lib.bitLen_shift k x h hx
  simp only at l8
  unfold wrap64
  omega

end Go.Proofs.Yteihehpgegkcpaa
