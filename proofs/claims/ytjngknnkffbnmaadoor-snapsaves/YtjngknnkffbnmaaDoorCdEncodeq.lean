/-
  Layer 7: the landed Encode, walked.
-/
import Derived.Test.YtjngknnkffbnmaaDoorCdWListq
import Derived.Test.YtjngknnkffbnmaaDoorCdCatchq
namespace Go.Proofs.YtjngknnkffbnmaaDoor
set_option maxRecDepth 100000
open Go.RowKit Crc

abbrev EncV (r : Nat ⊕ List Nat) (B : Nat) (w' : World) (v : Value) (x : Int) : Prop :=
  match r with
  | .inl y => v = .slice none 0 0 ∧ x = (y : Int)
  | .inr m => OW w' B v m ∧ x = 0
/-- What Encode tells: b the bytes' value, x the error. -/
def Encd (r : Nat ⊕ List Nat) (w : World) (e : Ending) (w' : World) : Prop :=
  ∃ v x, e = .returned (.tuple #[v, .int .i64 x]) ∧ Below w.heap.size w w' ∧ EncV r w.heap.size w' v x

set_option maxHeartbeats 2000000 in
theorem encode_any (t : Tr) (v : Value) (w : World) (h : CR w t v) (r : Nat ⊕ List Nat) (hr : r = encT t 64 []) :
    Calls Tryd.prog 26 #[v] w (Encd r w) := by
  have hmf : ∀ (fn : Fn) (first cap : Array Value) (w : World), (Instr.makeFunc fn first cap).run Tryd.prog w = .ok (.func fn first cap) w := fun _ _ _ _ => rfl
  have hcs := h.cs
  obtain ⟨k, n, s, a, m, cap, rfl⟩ := hcs.form
  have HR : Hid (r = encT t 64 []) := hr
  obtain ⟨w4, hw4⟩ : ∃ w4, w4 = ((((w.alloc (.cells #[.int .i64 k, .int .u64 n, .string s, .slice a m cap] 26)).alloc (.cells #[.slice none 0 0] 31)).alloc (.cells #[.int .i64 0] 32)).alloc (.cells #[.slice none 0 0] 78)) := ⟨_, rfl⟩
  have hs4 : w4.heap.size = w.heap.size + 4 := by rw [hw4]; simp
  have HB4 : Hid (Below w.heap.size w w4) := by
    rw [hw4]
    exact ((((Below.refl _ w).alloc (Nat.le_refl _) _).alloc (by simp) _).alloc (by simp; omega) _).alloc (by simp; omega) _
  have HW4 : Hid (WR w4 (w.heap.size + 3) (w.heap.size + 3) (.slice none 0 0) []) := by
    refine ⟨?_, ?_, ⟨(by intro d hd; simp at hd), World.ownsRow_nil _ _ _ _⟩, Nat.le_refl _, by omega, fun k hk => by simp [Value.ownBlock] at hk⟩
    · rw [hw4, World.cell?_alloc_at _ _ _ _ (by simp)]; rfl
    · intro i; rw [hw4, World.frozen?_alloc_at _ _ _ _ (by simp)]
  have P1 : w4.cell? ⟨w.heap.size + 1, 0, none⟩ = some (.slice none 0 0) := by
    rw [hw4, World.cell?_alloc_lt _ _ _ (by simp), World.cell?_alloc_lt _ _ _ (by simp), World.cell?_alloc_at _ _ _ _ (by simp)]; rfl
  have P2 : w4.cell? ⟨w.heap.size + 2, 0, none⟩ = some (.int .i64 0) := by
    rw [hw4, World.cell?_alloc_lt _ _ _ (by simp), World.cell?_alloc_at _ _ _ _ (by simp)]; rfl
  have Z1 : w4.frozen? ⟨w.heap.size + 1, 0, none⟩ = false := by
    rw [hw4, World.frozen?_alloc_past _ _ _ (by simp), World.frozen?_alloc_past _ _ _ (by simp), World.frozen?_alloc_at _ _ _ _ (by simp)]
  have Z2 : w4.frozen? ⟨w.heap.size + 2, 0, none⟩ = false := by
    rw [hw4, World.frozen?_alloc_past _ _ _ (by simp), World.frozen?_alloc_at _ _ _ _ (by simp)]
  have hcall := wcell_any (w.heap.size + 3) (w.heap.size + 3) (t.dep + 1) t _ (.slice none 0 0) 64 [] w4 (Nat.lt_succ_self _) (Nat.le_refl _) ((hcs.kept (fun k hk => HB4.out.block k hk)).widen (fun k hk => by omega)) HW4.out (by simp) r hr
  rw [show (64 : Int) - ((64 : Nat) : Int) = 0 from rfl] at hcall
  clear h hcs hr
  unfold cellV at *
  go_enter_defers Tryd.func26, Tryd.ntmps26
  go_wp2_with fail
  rw [← hw4]
  refine hcall.mono ?_
  clear hw4 hcall
  intro e w5 hwr
  cases r with
  | inl x =>
    obtain ⟨rfl, hb5⟩ := hwr
    have p1 : w5.cell? ⟨w.heap.size + 1, 0, none⟩ = some (.slice none 0 0) := (hb5.cell (p := ⟨w.heap.size + 1, 0, none⟩) (show w.heap.size + 1 < w.heap.size + 3 by omega)).trans P1
    have p2 : w5.cell? ⟨w.heap.size + 2, 0, none⟩ = some (.int .i64 0) := (hb5.cell (p := ⟨w.heap.size + 2, 0, none⟩) (show w.heap.size + 2 < w.heap.size + 3 by omega)).trans P2
    have z1 : w5.frozen? ⟨w.heap.size + 1, 0, none⟩ = false := (hb5.frozen (p := ⟨w.heap.size + 1, 0, none⟩) (show w.heap.size + 1 < w.heap.size + 3 by omega)).trans Z1
    have z2 : w5.frozen? ⟨w.heap.size + 2, 0, none⟩ = false := (hb5.frozen (p := ⟨w.heap.size + 2, 0, none⟩) (show w.heap.size + 2 < w.heap.size + 3 by omega)).trans Z2
    have HB5 : Hid (Below w.heap.size w w5) := HB4.out.trans (hb5.mono (by omega))
    unfold gaveUp
    go_wp2
    refine leaves_cons (f := 48) (args := #[.pointer (some ⟨w.heap.size + 1, 0, none⟩), .pointer (some ⟨w.heap.size + 2, 0, none⟩)]) (by simp) (by simp [go_sem]) ?_
    refine (ecatch_up (w.heap.size + 1) (w.heap.size + 2) x 0 _ w5 p1 z1 p2 z2 (by omega)).mono ?_
    rintro e u' w6 ⟨rfl, rfl, rfl⟩
    have hb6 : Below w.heap.size w (((w5.setCell ⟨w.heap.size + 1, 0, none⟩ (.slice none 0 0)).setCell ⟨w.heap.size + 2, 0, none⟩ (.int .i64 x)).drew) := ((HB5.out.setCell (by simp) _).setCell (by simp) _).drew
    have HP : Hid (Encd (.inl x) w (.returned (.tuple #[.slice none 0 0, .int .i64 x])) (((w5.setCell ⟨w.heap.size + 1, 0, none⟩ (.slice none 0 0)).setCell ⟨w.heap.size + 2, 0, none⟩ (.int .i64 x)).drew)) := ⟨_, _, rfl, hb6, rfl, rfl⟩
    clear hb6
    simp [Leaves, settle, results, Tryd.results26, go_sem, p1, p2]
    exact HP.out
  | inr m2 =>
    obtain ⟨rfl, v5, q1, q2, q3⟩ := hwr
    have hb5 := q2.below HW4.out
    have p1 : w5.cell? ⟨w.heap.size + 1, 0, none⟩ = some (.slice none 0 0) := (hb5.cell (p := ⟨w.heap.size + 1, 0, none⟩) (show w.heap.size + 1 < w.heap.size + 3 by omega)).trans P1
    have p2 : w5.cell? ⟨w.heap.size + 2, 0, none⟩ = some (.int .i64 0) := (hb5.cell (p := ⟨w.heap.size + 2, 0, none⟩) (show w.heap.size + 2 < w.heap.size + 3 by omega)).trans P2
    have z1 : w5.frozen? ⟨w.heap.size + 1, 0, none⟩ = false := (hb5.frozen (p := ⟨w.heap.size + 1, 0, none⟩) (show w.heap.size + 1 < w.heap.size + 3 by omega)).trans Z1
    have z2 : w5.frozen? ⟨w.heap.size + 2, 0, none⟩ = false := (hb5.frozen (p := ⟨w.heap.size + 2, 0, none⟩) (show w.heap.size + 2 < w.heap.size + 3 by omega)).trans Z2
    have p3 : w5.cell? ⟨w.heap.size + 3, 0, none⟩ = some v5 := q1.c
    have hb6 : Below w.heap.size w ((w5.setCell ⟨w.heap.size + 1, 0, none⟩ v5).setCell ⟨w.heap.size + 2, 0, none⟩ (.int .i64 0)) := ((HB4.out.trans (hb5.mono (by omega))).setCell (by simp) _).setCell (by simp) _
    obtain ⟨a5, c5, rfl⟩ := ownsRow_slice q1.ow.2
    have HP : Hid (Encd (.inr m2) w (.returned (.tuple #[.slice a5 m2.length c5, .int .i64 0])) ((w5.setCell ⟨w.heap.size + 1, 0, none⟩ (.slice a5 m2.length c5)).setCell ⟨w.heap.size + 2, 0, none⟩ (.int .i64 0))) := by
      refine ⟨_, _, rfl, hb6, ?_, rfl⟩
      refine OW.base (B := w.heap.size + 3) ⟨q1.ow.1, ?_⟩ (by omega)
      cases e : (Value.slice a5 m2.length c5).ownBlock with
      | none =>
        obtain ⟨l1, l2⟩ := q1.ow.2
        refine ⟨l1, ?_⟩
        rcases l2 with l2 | ⟨g, cap, cur, e2, _⟩
        · exact Or.inl l2
        · rw [e2] at e; simp [Value.ownBlock] at e
      | some g0 =>
        have := (q1.ow.2.lt g0 e).1
        refine ownsRow_far q1.ow.2 ?_ e
        rw [heap_setCell_other _ _ _ _ (by simp; omega), heap_setCell_other _ _ _ _ (by simp; omega)]
    clear hb6 hb5 q1 q2 q3
    go_wp2
    refine leaves_cons (f := 48) (args := #[.pointer (some ⟨w.heap.size + 1, 0, none⟩), .pointer (some ⟨w.heap.size + 2, 0, none⟩)]) (by simp) (by simp [go_sem]) ?_
    refine (ecatch_idle ⟨w.heap.size + 1, 0, none⟩ ⟨w.heap.size + 2, 0, none⟩ _).mono ?_
    rintro e u' w6 ⟨rfl, rfl, rfl⟩
    simp [Leaves, settle, results, Tryd.results26, go_sem, p1, p2]
    exact HP.out

end Go.Proofs.YtjngknnkffbnmaaDoor
