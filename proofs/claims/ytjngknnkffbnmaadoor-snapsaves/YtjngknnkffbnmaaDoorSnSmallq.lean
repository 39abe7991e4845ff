/-
  Layer 19: the law's small, walked.
-/
import Derived.Test.YtjngknnkffbnmaaDoorGC1
namespace Go.Proofs.YtjngknnkffbnmaaDoor
set_option maxRecDepth 100000
open Go.RowKit Crc

set_option maxHeartbeats 400000 in
theorem lawSmall19_any (t : Tr) (v : Value) (w : World) (h : CR w t v) :
    Calls Tryd.prog 7 #[v] w fun e w' => ∃ ok : Bool, e = .returned (.bool ok) ∧ (ok = true → t.cnt ≤ 2000 ∧ t.dep ≤ 100) ∧ Below w.heap.size w w' := by
  have hsm := fun o : Obj => small_any 101 (by decide) t v (w.alloc o) 2000 (h.kept ((Below.refl _ w).alloc (Nat.le_refl _) o) (Nat.le_refl _)) (by decide) (by decide)
  have HP : Hid (∀ m ok, Told t 2000 101 m ok → ok = true → t.cnt ≤ 2000 ∧ t.dep ≤ 100) := fun m ok hT e => ⟨by have := (hT.2.2 e); omega, by have := (hT.2.2 e).2.1; omega⟩
  simp only [show (101 : Int) - ((101 : Nat) : Int) = 0 from rfl] at hsm
  cases h using CR.elim
  unfold cellV at *
  go_enter Tryd.func7, Tryd.ntmps7
  go_wp2_with fail
  refine (hsm _).mono ?_
  rintro e w2 ⟨m, ok, rfl, hT, hb⟩
  have HQ : Hid _ := And.intro (HP.out m ok hT) (((Below.refl _ w).alloc (Nat.le_refl _) _).trans (hb.mono (by simp)))
  clear hT hb hsm
  go_wp2
  go_ret
  exact ⟨ok, rfl, HQ.out⟩

end Go.Proofs.YtjngknnkffbnmaaDoor
