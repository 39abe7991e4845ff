/-
  Layer 7: the landed reader's number and count, walked where there is enough.
-/
import Derived.Test.YtcblknghkgihcaaDoorCdTake
namespace Go.Proofs.YtcblknghkgihcaaDoor
set_option maxRecDepth 100000
open Go.RowKit Crc

/-- The number that bytes are, the highest first. -/
def nb (l : List Nat) : Nat := l.foldl (fun n d => n * 256 + d) 0

theorem nb_snoc (l : List Nat) (d : Nat) : nb (l ++ [d]) = nb l * 256 + d := by unfold nb; rw [List.foldl_append]; rfl

theorem nb_take (l : List Nat) (i : Nat) (h : i < l.length) : nb (l.take (i + 1)) = nb (l.take i) * 256 + l.getD i 0 := by
  rw [List.take_succ_eq_append_getElem h, nb_snoc]
  congr 1
  simp [h]

theorem nb_lt {l : List Nat} (hs : Sm8 l) : ∀ i, i ≤ l.length → nb (l.take i) < 256 ^ i
  | 0, _ => by simp [nb]
  | i + 1, h => by
    rw [nb_take l i (by omega)]
    have h1 := nb_lt hs i (by omega)
    have h2 := hs.getD i
    rw [Nat.pow_succ]
    omega

theorem or8 (n d : Nat) (hn : n < 72057594037927936) (hd : d < 256) : bits .or .u64 ((n : Int) * 256) (d : Int) = ((n * 256 + d : Nat) : Int) := by
  have h := bits_or_u64_nat (n * 256) d (by omega) (by omega)
  rw [show ((n * 256 : Nat) : Int) = (n : Int) * 256 by omega] at h
  rw [h]
  congr 1
  rw [show n * 256 = 2 ^ 8 * n by omega, Nat.two_pow_add_eq_or_of_lt (i := 8) (b := d) (by omega) n]

end Go.Proofs.YtcblknghkgihcaaDoor
