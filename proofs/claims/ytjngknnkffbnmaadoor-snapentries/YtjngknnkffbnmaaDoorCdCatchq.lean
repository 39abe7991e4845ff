/-
  Layer 7: what Encode and Decode defer: a panic with an Errno is told.
-/
import Derived.Test.YtjngknnkffbnmaaDoorGC1
import Derived.Recover
import Derived.Deep.Light
namespace Go.Proofs.YtjngknnkffbnmaaDoor
set_option maxRecDepth 100000
open Go.RowKit Crc

theorem ecatch_idle (p q : Addr) (w : World) :
    CallsD Tryd.prog 48 #[.pointer (some p), .pointer (some q)] .returning w fun e u' w' => e = .returned (.tuple #[]) ∧ u' = .returning ∧ w' = w := by
  refine callsD_of_wpS Tryd.func48 rfl fun c₀ cs hu => ?_
  apply wpS_seq
  apply wpS_region
  simp [wpOpsS, go_sem, recoverD, hu, Tryd.ntmps48, Exit.thenS]
  refine wpS_of_wp ?_
  go_wp2
  cases c₀
  simp_all [bodyPostS, results, Tryd.results48]

theorem dcatch_idle (p q : Addr) (w : World) :
    CallsD Tryd.prog 56 #[.pointer (some p), .pointer (some q)] .returning w fun e u' w' => e = .returned (.tuple #[]) ∧ u' = .returning ∧ w' = w := by
  refine callsD_of_wpS Tryd.func56 rfl fun c₀ cs hu => ?_
  apply wpS_seq
  apply wpS_region
  simp [wpOpsS, go_sem, recoverD, hu, Tryd.ntmps56, Exit.thenS]
  refine wpS_of_wp ?_
  go_wp2
  cases c₀
  simp_all [bodyPostS, results, Tryd.results56]

set_option maxHeartbeats 1000000 in
theorem ecatch_up (p q : Nat) (x y : Int) (u : Value) (w : World) (hp : w.cell? ⟨p, 0, none⟩ = some u) (hpz : w.frozen? ⟨p, 0, none⟩ = false) (hq : w.cell? ⟨q, 0, none⟩ = some (.int .i64 y)) (hqz : w.frozen? ⟨q, 0, none⟩ = false) (hpq : p ≠ q) :
    CallsD Tryd.prog 48 #[.pointer (some ⟨p, 0, none⟩), .pointer (some ⟨q, 0, none⟩)] (.panicking [{ v := .iface 32 (.int .i64 x), recovered := false }]) w fun e u' w' => e = .returned (.tuple #[]) ∧ u' = .panicking [{ v := .iface 32 (.int .i64 x), recovered := true }] ∧
      w' = ((w.setCell ⟨p, 0, none⟩ (.slice none 0 0)).setCell ⟨q, 0, none⟩ (.int .i64 x)).drew := by
  refine callsD_of_wpS Tryd.func48 rfl fun c₀ cs hu => ?_
  apply wpS_seq
  apply wpS_region
  simp [wpOpsS, go_sem, recoverD, hu, Tryd.ntmps48, Exit.thenS]
  have hta : ∀ w : World, (Instr.typeAssert (Value.iface 32 (Value.int IntKind.i64 x)) 20 32 false).run Tryd.prog w = .ok (.int .i64 x) w := fun _ => by kernel_rfl
  refine wpS_of_wp ?_
  rw [show (#[Value.pointer (some ⟨p, 0, none⟩), Value.pointer (some ⟨q, 0, none⟩)] ++ ((Array.replicate 6 undef).setIfInBounds 1 (Value.iface 32 (Value.int IntKind.i64 x))).setIfInBounds 0 (Value.iface 32 (Value.int IntKind.i64 x)) : Array Value) = #[.pointer (some ⟨p, 0, none⟩), .pointer (some ⟨q, 0, none⟩), .iface 32 (.int .i64 x), .iface 32 (.int .i64 x), undef, undef, undef, undef] from rfl]
  go_wp2
  · go_region
    show bodyPostS _ _ _ _ _ _ _ _ _
    cases c₀
    simp [bodyPostS, results, Tryd.results48]

set_option maxHeartbeats 2000000 in
theorem dcatch_up (p q : Nat) (x y : Int) (u0 u1 u2 u3 : Value) (w : World) (hp0 : w.cell? ⟨p, 0, none⟩ = some u0) (hp1 : w.cell? ⟨p, 1, none⟩ = some u1) (hp2 : w.cell? ⟨p, 2, none⟩ = some u2) (hp3 : w.cell? ⟨p, 3, none⟩ = some u3)
    (hz0 : w.frozen? ⟨p, 0, none⟩ = false) (hz1 : w.frozen? ⟨p, 1, none⟩ = false) (hz2 : w.frozen? ⟨p, 2, none⟩ = false) (hz3 : w.frozen? ⟨p, 3, none⟩ = false) (hq : w.cell? ⟨q, 0, none⟩ = some (.int .i64 y)) (hqz : w.frozen? ⟨q, 0, none⟩ = false) (hpq : p ≠ q) :
    CallsD Tryd.prog 56 #[.pointer (some ⟨p, 0, none⟩), .pointer (some ⟨q, 0, none⟩)] (.panicking [{ v := .iface 32 (.int .i64 x), recovered := false }]) w fun e u' w' => e = .returned (.tuple #[]) ∧ u' = .panicking [{ v := .iface 32 (.int .i64 x), recovered := true }] ∧
      w' = (((((w.setCell ⟨p, 0, none⟩ (.int .i64 0)).setCell ⟨p, 1, none⟩ (.int .u64 0)).setCell ⟨p, 2, none⟩ (.string ⟨#[]⟩)).setCell ⟨p, 3, none⟩ (.slice none 0 0)).setCell ⟨q, 0, none⟩ (.int .i64 x)).drew := by
  refine callsD_of_wpS Tryd.func56 rfl fun c₀ cs hu => ?_
  apply wpS_seq
  apply wpS_region
  simp [wpOpsS, go_sem, recoverD, hu, Tryd.ntmps56, Exit.thenS]
  have hta : ∀ w : World, (Instr.typeAssert (Value.iface 32 (Value.int IntKind.i64 x)) 20 32 false).run Tryd.prog w = .ok (.int .i64 x) w := fun _ => by kernel_rfl
  refine wpS_of_wp ?_
  rw [show (#[Value.pointer (some ⟨p, 0, none⟩), Value.pointer (some ⟨q, 0, none⟩)] ++ ((Array.replicate 7 undef).setIfInBounds 1 (Value.iface 32 (Value.int IntKind.i64 x))).setIfInBounds 0 (Value.iface 32 (Value.int IntKind.i64 x)) : Array Value) = #[.pointer (some ⟨p, 0, none⟩), .pointer (some ⟨q, 0, none⟩), .iface 32 (.int .i64 x), .iface 32 (.int .i64 x), undef, undef, undef, undef, undef] from rfl]
  go_wp2
  · go_region
    show bodyPostS _ _ _ _ _ _ _ _ _
    cases c₀
    simp [bodyPostS, results, Tryd.results56]

end Go.Proofs.YtjngknnkffbnmaaDoor
