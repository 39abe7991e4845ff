/-
  Layer 7: the landed Decode, walked.
-/
import Derived.Test.YtjngknnkffbnmaaDoorCdRAnyq
import Derived.Test.YtjngknnkffbnmaaDoorCdCatchq
namespace Go.Proofs.YtjngknnkffbnmaaDoor
set_option maxRecDepth 100000
open Go.RowKit Crc

/-- What bytes are read as. -/
def decD (l : List Nat) : Nat ⊕ Tr :=
  if 1048576 < l.length then .inl 2 else match decT 64 l with
    | .inl x => .inl x
    | .inr p => if p.2.length = 0 then .inr p.1 else .inl 4

abbrev DecV (r : Nat ⊕ Tr) (B : Nat) (w' : World) (cv : Value) (x : Int) : Prop :=
  match r with
  | .inl y => cv = cellV 0 0 ⟨#[]⟩ (.slice none 0 0) ∧ x = (y : Int)
  | .inr t => CS w' (fun k => B ≤ k) t cv ∧ x = 0
/-- What Decode tells: the cell and the error. -/
def Decd (r : Nat ⊕ Tr) (w : World) (e : Ending) (w' : World) : Prop :=
  ∃ cv x, e = .returned (.tuple #[cv, .int .i64 x]) ∧ Below w.heap.size w w' ∧ DecV r w.heap.size w' cv x

theorem KR.below {b B : Nat} {w w' : World} (h : KR b w w') (hB : B ≤ w.heap.size) (hb : B ≤ b) : Below B w w' := ⟨h.os, h.tape, h.output, h.size, fun k hk => h.block k (by omega) (by omega)⟩

/-- A result's block that is laid twice, and an error behind it. -/
theorem laid_twice {w4 W : World} {p q : Nat} {y e : Value} (hrc : Rc w4 p) (hpq : p ≠ q) (k k' : Int) (n n' : Nat) (s s' : ByteArray) (u u' : Value) (p2 : w4.cell? ⟨q, 0, none⟩ = some y)
    (hW : W = ((((((((w4.setCell ⟨p, 0, none⟩ (.int .i64 k)).setCell ⟨p, 1, none⟩ (.int .u64 n)).setCell ⟨p, 2, none⟩ (.string s)).setCell ⟨p, 3, none⟩ (u)).setCell ⟨p, 0, none⟩ (.int .i64 k')).setCell ⟨p, 1, none⟩ (.int .u64 n')).setCell ⟨p, 2, none⟩ (.string s')).setCell ⟨p, 3, none⟩ (u')).setCell ⟨q, 0, none⟩ e) :
    (W.cell? ⟨p, 0, none⟩ = some (.int .i64 k') ∧ W.cell? ⟨p, 1, none⟩ = some (.int .u64 n') ∧ W.cell? ⟨p, 2, none⟩ = some (.string s') ∧ W.cell? ⟨p, 3, none⟩ = some u' ∧ W.cell? ⟨q, 0, none⟩ = some e) ∧ (∀ j, j ≠ p → j ≠ q → W.heap[j]? = w4.heap[j]?) ∧
      (∀ (B : Nat) (w : World), Below B w w4 → B ≤ p → B ≤ q → Below B w W) := by
  have z1 := (hrc.set k n s u rfl).1
  have z2 := heap_setCell_same _ _ 3 _ _ u' (heap_setCell_same _ _ 2 _ _ (.string s') (heap_setCell_same _ _ 1 _ _ (.int .u64 n') (heap_setCell_same _ _ 0 _ _ (.int .i64 k') z1)))
  have z3 : W.heap[p]? = some (.cells #[.int .i64 k', .int .u64 n', .string s', u'] 26 (0, 0)) := by
    rw [hW, heap_setCell_other _ _ _ _ (by simpa using hpq)]; exact z2
  refine ⟨⟨(cell_of_row W _ 0 _ _ _ z3).trans rfl, (cell_of_row W _ 1 _ _ _ z3).trans rfl, (cell_of_row W _ 2 _ _ _ z3).trans rfl, (cell_of_row W _ 3 _ _ _ z3).trans rfl, ?_⟩, ?_, ?_⟩
  · rw [hW]
    refine World.cell?_setCell_same (u := y) _ _ e ?_
    have hne : ∀ i : Nat, (⟨p, i, none⟩ : Addr) ≠ ⟨q, 0, none⟩ := fun i h => hpq (by injection h)
    rw [World.cell?_setCell_other _ _ _ _ (hne _), World.cell?_setCell_other _ _ _ _ (hne _), World.cell?_setCell_other _ _ _ _ (hne _), World.cell?_setCell_other _ _ _ _ (hne _), World.cell?_setCell_other _ _ _ _ (hne _), World.cell?_setCell_other _ _ _ _ (hne _), World.cell?_setCell_other _ _ _ _ (hne _), World.cell?_setCell_other _ _ _ _ (hne _)]
    exact p2
  · intro j hp hq
    rw [hW, heap_setCell_other _ _ _ _ hq, heap_setCell_other _ _ _ _ hp, heap_setCell_other _ _ _ _ hp, heap_setCell_other _ _ _ _ hp, heap_setCell_other _ _ _ _ hp, heap_setCell_other _ _ _ _ hp, heap_setCell_other _ _ _ _ hp, heap_setCell_other _ _ _ _ hp, heap_setCell_other _ _ _ _ hp]
  · intro B w hb h1 h2
    rw [hW]
    exact ((((((((hb.setCell h1 _).setCell h1 _).setCell h1 _).setCell h1 _).setCell h1 _).setCell h1 _).setCell h1 _).setCell h1 _).setCell h2 _

set_option maxHeartbeats 4000000 in
theorem decode_any (B : Nat) (v : Value) (l : List Nat) (w : World) (h : OW w B v l) (r : Nat ⊕ Tr) (hr : r = decD l) :
    Calls Tryd.prog 36 #[v] w (Decd r w) := by
  have hmf : ∀ (fn : Fn) (first cap : Array Value) (w : World), (Instr.makeFunc fn first cap).run Tryd.prog w = .ok (.func fn first cap) w := fun _ _ _ _ => rfl
  have HR : Hid (r = decD l) := hr
  obtain ⟨a, cap, rfl⟩ := ownsRow_slice h.2
  have hlen : l.length ≤ 9223372036854775807 := by obtain ⟨_, _, _, h2⟩ := h.shape; exact h2
  by_cases c : 1048576 < l.length
  · have hci : (l.length : Int) > 1048576 := by omega
    have HQ : Hid (∀ W, Below w.heap.size w W → Decd r w (.returned (.tuple #[cellV 0 0 ⟨#[]⟩ (.slice none 0 0), .int .i64 2])) W) := by
      intro W hW
      rw [HR.out]; unfold decD; rw [if_pos c]
      exact ⟨_, _, rfl, hW, rfl, rfl⟩
    have HB : Hid (∀ o o' : Obj, Below w.heap.size w ((w.alloc o).alloc o')) := fun o o' => ((Below.refl _ w).alloc (Nat.le_refl _) o).alloc (by simp) o'
    clear h hr
    go_enter_defers Tryd.func36, Tryd.ntmps36
    go_wp2
    have HQ2 : Hid _ := HQ.out _ (HB.out (.cells #[.int .i64 0, .int .u64 0, .string ⟨#[]⟩, .slice none 0 0] 26) (.cells #[.int .i64 2] 32))
    unfold cellV at HQ2
    simp [bodyPostD, Leaves, results, Tryd.results36, go_sem]
    exact HQ2.out
  · have hci : ¬ (l.length : Int) > 1048576 := by omega
    obtain ⟨w3, hw3⟩ : ∃ w3, w3 = ((w.alloc (.cells #[.int .i64 0, .int .u64 0, .string ⟨#[]⟩, .slice none 0 0] 26)).alloc (.cells #[.int .i64 0] 32)).alloc (.cells #[.slice a l.length cap] 87) := ⟨_, rfl⟩
    have hs3 : w3.heap.size = w.heap.size + 3 := by rw [hw3]; simp
    have HB3 : Hid (Below w.heap.size w w3) := by
      rw [hw3]
      exact (((Below.refl _ w).alloc (Nat.le_refl _) _).alloc (by simp) _).alloc (by simp; omega) _
    have HR3 : Hid (RD w3 (w.heap.size + 2) w.heap.size (.slice a l.length cap) l) := by
      have hlt : ∀ x n k, Value.slice a l.length cap = .slice (some x) n k → x.block < w.heap.size := by
        intro x n k e
        simp only [Value.slice.injEq] at e
        rcases h.2.2 with ⟨e1, _⟩ | ⟨g, c, cur, e1, _⟩
        · simp only [Value.slice.injEq] at e1; rw [e1.1] at e; cases e.1
        · simp only [Value.slice.injEq] at e1
          have : Value.ownBlock (.slice a l.length cap) = some g := by rw [e1.1]; rfl
          have h2 := (h.2.lt g this).2
          rw [e1.1] at e
          have h3 := e.1
          injection h3 with h3
          rw [← h3]
          exact h2
      refine ⟨?_, ?_, h.br.below HB3.out (Nat.le_refl _), fun x n k e => by have := hlt x n k e; omega, hlt, by omega⟩
      · rw [hw3, World.cell?_alloc_at _ _ _ _ (by simp)]; rfl
      · intro i; rw [hw3, World.frozen?_alloc_at _ _ _ _ (by simp)]
    have HRC : Hid (Rc w3 w.heap.size) := by
      show w3.heap[w.heap.size]? = _
      rw [hw3, Below.heap_alloc _ _ _ (by simp; omega), Below.heap_alloc _ _ _ (by simp)]
      exact heap_alloc_new _ _
    have P2 : w3.cell? ⟨w.heap.size + 1, 0, none⟩ = some (.int .i64 0) := by
      rw [hw3, World.cell?_alloc_lt _ _ _ (by simp), World.cell?_alloc_at _ _ _ _ (by simp)]; rfl
    have Z2 : w3.frozen? ⟨w.heap.size + 1, 0, none⟩ = false := by
      rw [hw3, World.frozen?_alloc_past _ _ _ (by simp), World.frozen?_alloc_at _ _ _ _ (by simp)]
    have hcall := rcell_any (w.heap.size + 2) w.heap.size 64 (Nat.le_refl _) (.slice a l.length cap) l w3 HR3.out (by omega) (by omega)
    rw [show (64 : Int) - ((64 : Nat) : Int) = 0 from rfl] at hcall
    have HRR : Hid (r = match decT 64 l with
      | .inl x => .inl x
      | .inr p => if p.2.length = 0 then .inr p.1 else .inl 4) := by
      show _ = _
      rw [HR.out]; unfold decD; rw [if_neg c]
    clear h hr
    generalize decT 64 l = E at hcall HRR
    go_enter_defers Tryd.func36, Tryd.ntmps36
    go_wp2_with fail
    rw [← hw3]
    clear hw3
    refine hcall.mono ?_
    intro e w4 hrd
    clear hcall
    cases E with
    | inl y =>
      obtain ⟨rfl, hk⟩ := hrd
      have hrc4 : Rc w4 w.heap.size := HRC.out.kr hk (by omega) (by omega)
      have c0 := hrc4.cell 0
      have c1 := hrc4.cell 1
      have c2 := hrc4.cell 2
      have c3 := hrc4.cell 3
      have f0 := hrc4.free 0
      have f1 := hrc4.free 1
      have f2 := hrc4.free 2
      have f3 := hrc4.free 3
      have p2 : w4.cell? ⟨w.heap.size + 1, 0, none⟩ = some (.int .i64 0) := (World.cell?_of_block (w := w3) (a := ⟨w.heap.size + 1, 0, none⟩) (hk.block _ (by simp; omega) (by simp))).trans P2
      have z2 : w4.frozen? ⟨w.heap.size + 1, 0, none⟩ = false := (World.frozen?_of_block (w := w3) (a := ⟨w.heap.size + 1, 0, none⟩) (hk.block _ (by simp; omega) (by simp))).trans Z2
      have hb4 : Below w.heap.size w w4 := HB3.out.trans (hk.below (by omega) (by omega))
      have HP : Hid (∀ W, Below w.heap.size w W → Decd r w (.returned (.tuple #[cellV 0 0 ⟨#[]⟩ (.slice none 0 0), .int .i64 y])) W) := by
        intro W hW
        rw [HRR.out]
        exact ⟨_, _, rfl, hW, rfl, rfl⟩
      unfold gaveUp
      go_wp2
      refine leaves_cons (f := 56) (args := #[.pointer (some ⟨w.heap.size, 0, none⟩), .pointer (some ⟨w.heap.size + 1, 0, none⟩)]) (by simp) (by simp [go_sem]) ?_
      refine (dcatch_up w.heap.size (w.heap.size + 1) y 0 _ _ _ _ w4 c0 c1 c2 c3 f0 f1 f2 f3 p2 z2 (by omega)).mono ?_
      rintro e u' w6 ⟨rfl, rfl, rfl⟩
      have HQ : Hid _ := HP.out _ (((((hb4.setCell (p := ⟨w.heap.size, 0, none⟩) (by simp) (.int .i64 0)).setCell (p := ⟨w.heap.size, 1, none⟩) (by simp) (.int .u64 0)).setCell (p := ⟨w.heap.size, 2, none⟩) (by simp) (.string ⟨#[]⟩)).setCell (p := ⟨w.heap.size, 3, none⟩) (by simp) (.slice none 0 0)).setCell (p := ⟨w.heap.size + 1, 0, none⟩) (by simp) (.int .i64 y)).drew
      unfold cellV at HQ
      simp [Leaves, settle, results, Tryd.results36, go_sem, c0, c1, c2, c3, p2]
      exact HQ.out
    | inr p =>
      obtain ⟨t, l2⟩ := p
      obtain ⟨cv, v2, rfl, q1, q2, q3, q4⟩ := hrd
      simp only at q1 q2 q4 HRR
      obtain ⟨k2, n2, s2, a2, m2, cap2, rfl⟩ := q1.form
      have hrc4 : Rc w4 w.heap.size := HRC.out.kr q3 (by omega) (by omega)
      have c0 := hrc4.cell 0
      have c1 := hrc4.cell 1
      have c2 := hrc4.cell 2
      have c3 := hrc4.cell 3
      have f0 := hrc4.free 0
      have f1 := hrc4.free 1
      have f2 := hrc4.free 2
      have f3 := hrc4.free 3
      have hkb := q3.block (w.heap.size + 1) (by omega) (by omega)
      have p2 : w4.cell? ⟨w.heap.size + 1, 0, none⟩ = some (.int .i64 0) := (World.cell?_of_block (w := w3) (a := ⟨w.heap.size + 1, 0, none⟩) hkb).trans P2
      have z2 : w4.frozen? ⟨w.heap.size + 1, 0, none⟩ = false := (World.frozen?_of_block (w := w3) (a := ⟨w.heap.size + 1, 0, none⟩) hkb).trans Z2
      have hb4 : Below w.heap.size w w4 := HB3.out.trans (q3.below (by omega) (by omega))
      obtain ⟨a5, n5, c5, rfl, h5⟩ : ∃ a n cap, v2 = .slice a n cap ∧ n = l2.length := by
        obtain ⟨_, a, cap, e, _⟩ := q2.br; exact ⟨a, _, cap, e, rfl⟩
      have p3 := q2.c
      by_cases cl : n5 = 0
      · have HP : Hid (∀ W : World, W = ((((((((w4.setCell ⟨w.heap.size, 0, none⟩ (.int .i64 k2)).setCell ⟨w.heap.size, 1, none⟩ (.int .u64 n2)).setCell ⟨w.heap.size, 2, none⟩ (.string s2)).setCell ⟨w.heap.size, 3, none⟩ (.slice a2 m2 cap2)).setCell ⟨w.heap.size, 0, none⟩ (.int .i64 k2)).setCell ⟨w.heap.size, 1, none⟩ (.int .u64 n2)).setCell ⟨w.heap.size, 2, none⟩ (.string s2)).setCell ⟨w.heap.size, 3, none⟩ (.slice a2 m2 cap2)).setCell ⟨w.heap.size + 1, 0, none⟩ (.int .i64 0) → (W.cell? ⟨w.heap.size, 0, none⟩ = some (.int .i64 k2) ∧ W.cell? ⟨w.heap.size, 1, none⟩ = some (.int .u64 n2) ∧ W.cell? ⟨w.heap.size, 2, none⟩ = some (.string s2) ∧ W.cell? ⟨w.heap.size, 3, none⟩ = some (.slice a2 m2 cap2) ∧ W.cell? ⟨w.heap.size + 1, 0, none⟩ = some (.int .i64 0)) ∧ Decd r w (.returned (.tuple #[cellV k2 n2 s2 (.slice a2 m2 cap2), .int .i64 0])) W) := by
          intro W hW
          obtain ⟨h1, h2, h3⟩ := laid_twice hrc4 (by omega) k2 k2 n2 n2 s2 s2 _ _ p2 hW
          refine ⟨h1, ?_⟩
          rw [HRR.out, if_pos (by omega)]
          exact ⟨_, _, rfl, h3 _ _ hb4 (Nat.le_refl _) (by omega), (q1.kept (fun k hk => h2 k (by omega) (by omega))).widen (fun k hk => by omega), rfl⟩
        subst cl
        clear q1 q2 q3 q4 hrc4 hkb h5
        unfold cellV at HP ⊢
        go_wp2
        refine leaves_cons (f := 56) (args := #[.pointer (some ⟨w.heap.size, 0, none⟩), .pointer (some ⟨w.heap.size + 1, 0, none⟩)]) (by simp) (by simp [go_sem]) ?_
        refine (dcatch_idle ⟨w.heap.size, 0, none⟩ ⟨w.heap.size + 1, 0, none⟩ _).mono ?_
        rintro e u' w6 ⟨rfl, rfl, rfl⟩
        obtain ⟨⟨y0, y1, y2, y3, y4⟩, y5⟩ := HP.out _ rfl
        have HQ : Hid _ := y5
        clear HP y5
        generalize ((((((((w4.setCell ⟨w.heap.size, 0, none⟩ (.int .i64 k2)).setCell ⟨w.heap.size, 1, none⟩ (.int .u64 n2)).setCell ⟨w.heap.size, 2, none⟩ (.string s2)).setCell ⟨w.heap.size, 3, none⟩ (.slice a2 m2 cap2)).setCell ⟨w.heap.size, 0, none⟩ (.int .i64 k2)).setCell ⟨w.heap.size, 1, none⟩ (.int .u64 n2)).setCell ⟨w.heap.size, 2, none⟩ (.string s2)).setCell ⟨w.heap.size, 3, none⟩ (.slice a2 m2 cap2)).setCell ⟨w.heap.size + 1, 0, none⟩ (.int .i64 0) = W at *
        simp [Leaves, settle, results, Tryd.results36, go_sem, y0, y1, y2, y3, y4]
        exact HQ.out
      · have hn5 : (n5 : Int) > 0 := by omega
        have HP : Hid (∀ W : World, W = ((((((((w4.setCell ⟨w.heap.size, 0, none⟩ (.int .i64 k2)).setCell ⟨w.heap.size, 1, none⟩ (.int .u64 n2)).setCell ⟨w.heap.size, 2, none⟩ (.string s2)).setCell ⟨w.heap.size, 3, none⟩ (.slice a2 m2 cap2)).setCell ⟨w.heap.size, 0, none⟩ (.int .i64 0)).setCell ⟨w.heap.size, 1, none⟩ (.int .u64 (0 : Nat))).setCell ⟨w.heap.size, 2, none⟩ (.string ⟨#[]⟩)).setCell ⟨w.heap.size, 3, none⟩ (.slice none 0 0)).setCell ⟨w.heap.size + 1, 0, none⟩ (.int .i64 4) → (W.drew.cell? ⟨w.heap.size, 0, none⟩ = some (.int .i64 0) ∧ W.drew.cell? ⟨w.heap.size, 1, none⟩ = some (.int .u64 (0 : Nat)) ∧ W.drew.cell? ⟨w.heap.size, 2, none⟩ = some (.string ⟨#[]⟩) ∧ W.drew.cell? ⟨w.heap.size, 3, none⟩ = some (.slice none 0 0) ∧ W.drew.cell? ⟨w.heap.size + 1, 0, none⟩ = some (.int .i64 4)) ∧ Decd r w (.returned (.tuple #[cellV 0 (0 : Nat) ⟨#[]⟩ (.slice none 0 0), .int .i64 4])) W.drew) := by
          intro W hW
          obtain ⟨h1, h2, h3⟩ := laid_twice hrc4 (by omega) k2 0 n2 0 s2 ⟨#[]⟩ _ _ p2 hW
          refine ⟨h1, ?_⟩
          rw [HRR.out, if_neg (by omega)]
          exact ⟨_, _, rfl, (h3 _ _ hb4 (Nat.le_refl _) (by omega)).drew, rfl, rfl⟩
        clear q1 q2 q3 q4 hrc4 hkb h5
        unfold cellV at HP ⊢
        go_wp2
        refine leaves_cons (f := 56) (args := #[.pointer (some ⟨w.heap.size, 0, none⟩), .pointer (some ⟨w.heap.size + 1, 0, none⟩)]) (by simp) (by simp [go_sem]) ?_
        refine (dcatch_up w.heap.size (w.heap.size + 1) 4 0 (.int .i64 k2) (.int .u64 n2) (.string s2) (.slice a2 m2 cap2) _ (by simp [go_sem, c0]) (by simp [go_sem, c1]) (by simp [go_sem, c2]) (by simp [go_sem, c3]) (by simp [go_sem, f0]) (by simp [go_sem, f1]) (by simp [go_sem, f2]) (by simp [go_sem, f3]) (by simp [go_sem, p2]) (by simp [go_sem, z2]) (by omega)).mono ?_
        rintro e u' w6 ⟨rfl, rfl, rfl⟩
        obtain ⟨⟨y0, y1, y2, y3, y4⟩, y5⟩ := HP.out _ rfl
        have HQ : Hid _ := y5
        clear HP y5
        generalize (((((((((w4.setCell ⟨w.heap.size, 0, none⟩ (.int .i64 k2)).setCell ⟨w.heap.size, 1, none⟩ (.int .u64 n2)).setCell ⟨w.heap.size, 2, none⟩ (.string s2)).setCell ⟨w.heap.size, 3, none⟩ (.slice a2 m2 cap2)).setCell ⟨w.heap.size, 0, none⟩ (.int .i64 0)).setCell ⟨w.heap.size, 1, none⟩ (.int .u64 0)).setCell ⟨w.heap.size, 2, none⟩ (.string ⟨#[]⟩)).setCell ⟨w.heap.size, 3, none⟩ (.slice none 0 0)).setCell ⟨w.heap.size + 1, 0, none⟩ (.int .i64 4)).drew = W at *
        simp [Leaves, settle, results, Tryd.results36, go_sem, y0, y1, y2, y3, y4]
        exact HQ.out

end Go.Proofs.YtjngknnkffbnmaaDoor
