/-
  Layer 7: the functions that make cells; the law's small.
-/
import Derived.Test.YtbkjghhghefejaaCdSmall
namespace Go.Proofs.Ytbkjghhghefejaa
open Go.RowKit Crc

theorem info25 : (Try.prog.info? 25).map (fun i => i.size) = some 4 := by kernel_rfl

set_option maxHeartbeats 400000 in
theorem cnumber_any (n : Nat) (w : World) :
    Calls Try.prog 19 #[.int .u64 n] w fun e w' => e = .returned (cellV 0 n ⟨#[]⟩ (.slice none 0 0)) ∧ Below w.heap.size w w' := by
  go_enter Try.func19, Try.ntmps19
  go_wp2
  refine bodyPost_ret (results_cell_row rfl _ _ w.heap.size _ _ _ _ rfl (heap_alloc_new _ _) Try.underlying25 rfl info25) rfl ⟨rfl, (Below.refl _ _).alloc (Nat.le_refl _) _⟩

set_option maxHeartbeats 400000 in
theorem rfnumber_any (n : Nat) (w : World) :
    Calls Try.prog 20 #[.int .u64 n] w fun e w' => e = .returned (cellV 0 n ⟨#[]⟩ (.slice none 0 0)) ∧ Below w.heap.size w w' := by
  go_enter Try.func20, Try.ntmps20
  go_wp2
  refine bodyPost_ret (results_cell_row rfl _ _ w.heap.size _ _ _ _ rfl (heap_alloc_new _ _) Try.underlying25 rfl info25) rfl ⟨rfl, (Below.refl _ _).alloc (Nat.le_refl _) _⟩

set_option maxHeartbeats 400000 in
theorem ctext_any (s : ByteArray) (w : World) :
    Calls Try.prog 21 #[.string s] w fun e w' => e = .returned (cellV 1 0 s (.slice none 0 0)) ∧ Below w.heap.size w w' := by
  go_enter Try.func21, Try.ntmps21
  go_wp2
  refine bodyPost_ret (results_cell_row rfl _ _ w.heap.size _ _ _ _ rfl (heap_alloc_new _ _) Try.underlying25 rfl info25) rfl ⟨rfl, (Below.refl _ _).alloc (Nat.le_refl _) _⟩

set_option maxHeartbeats 400000 in
theorem rftext_any (s : ByteArray) (w : World) :
    Calls Try.prog 22 #[.string s] w fun e w' => e = .returned (cellV 1 0 s (.slice none 0 0)) ∧ Below w.heap.size w w' := by
  go_enter Try.func22, Try.ntmps22
  go_wp2
  refine bodyPost_ret (results_cell_row rfl _ _ w.heap.size _ _ _ _ rfl (heap_alloc_new _ _) Try.underlying25 rfl info25) rfl ⟨rfl, (Below.refl _ _).alloc (Nat.le_refl _) _⟩

set_option maxHeartbeats 400000 in
theorem rflist_any (a : Option Addr) (n cap : Nat) (w : World) :
    Calls Try.prog 18 #[.slice a n cap] w fun e w' => e = .returned (cellV 2 0 ⟨#[]⟩ (.slice a n cap)) ∧ Below w.heap.size w w' := by
  go_enter Try.func18, Try.ntmps18
  go_wp2
  refine bodyPost_ret (results_cell_row rfl _ _ w.heap.size _ _ _ _ rfl (heap_alloc_new _ _) Try.underlying25 rfl info25) rfl ⟨rfl, (Below.refl _ _).alloc (Nat.le_refl _) _⟩

set_option maxHeartbeats 400000 in
theorem lawSmall_any (t : Tr) (v : Value) (w : World) (h : CR w t v) :
    Calls Try.prog 8 #[v] w fun e w' => ∃ ok : Bool, e = .returned (.bool ok) ∧ (ok = true → t.cnt ≤ 3000 ∧ t.dep ≤ 100) ∧ Below w.heap.size w w' := by
  have hsm := fun o : Obj => small_any 101 (by decide) t v (w.alloc o) 3000 (h.kept ((Below.refl _ w).alloc (Nat.le_refl _) o) (Nat.le_refl _)) (by decide) (by decide)
  have HP : Hid (∀ m ok, Told t 3000 101 m ok → ok = true → t.cnt ≤ 3000 ∧ t.dep ≤ 100) := fun m ok hT e => ⟨by have := (hT.2.2 e); omega, by have := (hT.2.2 e).2.1; omega⟩
  simp only [show (101 : Int) - ((101 : Nat) : Int) = 0 from rfl] at hsm
  cases h using CR.elim
  unfold cellV at *
  go_enter Try.func8, Try.ntmps8
  go_wp2_with fail
  refine (hsm _).mono ?_
  rintro e w2 ⟨m, ok, rfl, hT, hb⟩
  have HQ : Hid _ := And.intro (HP.out m ok hT) (((Below.refl _ w).alloc (Nat.le_refl _) _).trans (hb.mono (by simp)))
  clear hT hb hsm
  go_wp2
  go_ret
  exact ⟨ok, rfl, HQ.out⟩

end Go.Proofs.Ytbkjghhghefejaa
