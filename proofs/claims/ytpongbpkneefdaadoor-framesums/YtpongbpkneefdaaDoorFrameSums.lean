/-
  FrameSums: the walk.
-/
import Derived.Test.YtpongbpkneefdaaDoorFrRef
namespace Go.Proofs.YtpongbpkneefdaaDoor
open Go.RowKit Crc

set_option maxHeartbeats 400000 in
theorem frameSums_walk (v : Value) (l : List Nat) (w : World) (h : BR w v l) (hlen : l.length ≤ 140737488355328) (hT : Tb w) (h0 : 0 < w.heap.size) :
    Calls Tryd.prog 3 #[v] w fun e w' => e = .returned (.bool true) ∧ Below w.heap.size w w' := by
  go_enter Tryd.func3, Tryd.ntmps3
  go_wp2_with fail
  refine (own_any v l w h hlen).mono ?_
  rintro e w1 ⟨v1, rfl, ho1, hb1⟩
  have s1 := hb1.size
  have hT1 := hT.below hb1 h0
  go_wp2_with fail
  refine (sum_any v1 l w1 ho1.br hT1 (by omega)).mono ?_
  rintro e w2 ⟨rfl, hb2⟩
  have s2 := hb2.size
  have hT2 := hT1.below hb2 (by omega)
  have hB2 := Below.then hb1 hb2
  have h2 := h.below hB2 (Nat.le_refl _)
  go_wp2_with fail
  refine (refSum_any v l w2 h2).mono ?_
  rintro e w3 ⟨rfl, rfl⟩
  go_wp2_with fail
  refine (lives_any w3 hT2 (by omega)).mono ?_
  rintro e w4 ⟨rfl, hb4⟩
  have hB4 : Hid (Below w.heap.size w w4) := Below.then hB2 hb4
  go_wp2
  go_ret
  exact ⟨rfl, hB4.out⟩

end Go.Proofs.YtpongbpkneefdaaDoor
