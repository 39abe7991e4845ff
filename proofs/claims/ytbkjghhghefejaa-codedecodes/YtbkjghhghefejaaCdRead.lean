/-
  Layer 7: the reference's number, walked; what its read tells.
-/
import Derived.Test.YtbkjghhghefejaaCdMath2
import Derived.Deep.AppendLies
namespace Go.Proofs.Ytbkjghhghefejaa
open Go.RowKit Crc

set_option maxHeartbeats 1000000 in
theorem rnum_any (v : Value) (l : List Nat) (w : World) (h : BR w v l) (hl : l.length ≤ 8) :
    Calls Try.prog 40 #[v] w fun e w' => e = .returned (.int .u64 (nb l : Nat)) ∧ w' = w := by
  have HB : Hid (BR w v l) := h
  obtain ⟨a, cap, rfl, k1, k2⟩ : ∃ a cap, v = .slice a l.length cap ∧ l.length ≤ cap ∧ cap ≤ maxLen := by
    obtain ⟨_, a, cap, e, k1, k2, _⟩ := h; exact ⟨a, cap, e, k1, k2⟩
  unfold maxLen at k2
  obtain ⟨s, hs⟩ : ∃ s, s = l.length := ⟨_, rfl⟩
  have HL : Hid (l.length = s) := hs.symm
  rw [← hs] at k1 hl HB ⊢
  clear h hs
  go_enter Try.func40, Try.ntmps40
  go_wp2_with fail
  go_loop [3, 4] (fun t3 t4 => ∃ i : Nat, i ≤ s ∧ t4 = .int .i64 i ∧ t3 = .int .u64 (nb (l.take i) : Nat)) (fun _ t4 => s - (intOf t4).toNat)
  case atStart => exact ⟨0, Nat.zero_le _, rfl, rfl⟩
  case round =>
    obtain ⟨i, hi, rfl, rfl⟩ := hrel
    by_cases c : i < s
    · obtain ⟨x, rfl, hcell, hd⟩ := HB.out.cell (i := i) (by rw [HL.out]; exact c)
      have hN := nb_take l i (by rw [HL.out]; exact c)
      have hlt : nb (l.take i) < 72057594037927936 := Nat.lt_of_lt_of_le (nb_lt HB.out.1 i (by rw [HL.out]; omega)) (Nat.pow_le_pow_right (n := 256) (j := 7) (by decide) (by omega))
      obtain ⟨N', hN'⟩ : ∃ N', N' = nb (l.take (i + 1)) := ⟨_, rfl⟩
      have HN : Hid (N' = nb (l.take (i + 1))) := hN'
      rw [← hN'] at hN
      clear hN'
      generalize nb (l.take i) = N at *
      generalize l.getD i 0 = d at *
      have hci : (i : Int) < (s : Int) := by omega
      have HE : Hid ((N' : Int) = (N : Int) * 256 + (d : Int)) := by show _ = _; omega
      clear hN
      go_wp2
      go_round
      case rel => exact ⟨i + 1, by omega, by go_num, by rw [← HN.out]; congr 1; exact HE.out.symm⟩
      case measure => simp [intOf]; omega
    · have e : i = s := by omega
      subst e
      have em : l.take i = l := by rw [← HL.out, List.take_length]
      rw [em]
      have hci : ¬ (i : Int) < (i : Int) := by omega
      go_wp2
      go_ret
      exact ⟨rfl, rfl⟩

/-- What the reference's read tells. -/
def RdP (r : Nat ⊕ (Tr × List Nat)) (l : List Nat) (w : World) (e : Ending) (w' : World) : Prop :=
  ∃ cv x y, e = .returned (.tuple #[cv, .int .i64 x, .int .i64 y]) ∧ Below w.heap.size w w' ∧ match r with
    | .inl z => cv = cellV 0 0 ⟨#[]⟩ (.slice none 0 0) ∧ x = 0 ∧ y = (z : Int)
    | .inr p => CS w' (fun k => w.heap.size ≤ k) p.1 cv ∧ y = 0 ∧ ∃ j : Nat, x = (j : Int) ∧ j ≤ l.length ∧ p.2 = l.drop j

/-- A block of the call's own that holds a cell. -/
def Qc (w : World) (q : Nat) (k : Int) (n : Nat) (s : ByteArray) (u : Value) : Prop := w.heap[q]? = some (.cells #[.int .i64 k, .int .u64 n, .string s, u] 25 (0, 0))
theorem Qc.c0 {w : World} {q : Nat} {k : Int} {n : Nat} {s : ByteArray} {u : Value} (h : Qc w q k n s u) : w.cell? ⟨q, 0, none⟩ = some (.int .i64 k) := cell_of_row w q 0 _ _ _ h
theorem Qc.c1 {w : World} {q : Nat} {k : Int} {n : Nat} {s : ByteArray} {u : Value} (h : Qc w q k n s u) : w.cell? ⟨q, 1, none⟩ = some (.int .u64 n) := cell_of_row w q 1 _ _ _ h
theorem Qc.c2 {w : World} {q : Nat} {k : Int} {n : Nat} {s : ByteArray} {u : Value} (h : Qc w q k n s u) : w.cell? ⟨q, 2, none⟩ = some (.string s) := cell_of_row w q 2 _ _ _ h
theorem Qc.c3 {w : World} {q : Nat} {k : Int} {n : Nat} {s : ByteArray} {u : Value} (h : Qc w q k n s u) : w.cell? ⟨q, 3, none⟩ = some u := cell_of_row w q 3 _ _ _ h
theorem Qc.free {w : World} {q : Nat} {k : Int} {n : Nat} {s : ByteArray} {u : Value} (h : Qc w q k n s u) (j : Nat) : w.frozen? ⟨q, j, none⟩ = false := by
  unfold Qc at h
  unfold World.frozen?
  simp [h]
theorem Qc.lt {w : World} {q : Nat} {k : Int} {n : Nat} {s : ByteArray} {u : Value} (h : Qc w q k n s u) : q < w.heap.size := by
  rcases Nat.lt_or_ge q w.heap.size with h1 | h1
  · exact h1
  · unfold Qc at h
    rw [Array.getElem?_eq_none h1] at h
    cases h
theorem Qc.same {w w' : World} {q : Nat} {k : Int} {n : Nat} {s : ByteArray} {u : Value} (h : Qc w q k n s u) (e : w'.heap[q]? = w.heap[q]?) : Qc w' q k n s u := e.trans h
theorem Qc.rc {w : World} {q : Nat} (h : Qc w q 0 0 ⟨#[]⟩ (.slice none 0 0)) : Rc w q := h

theorem TW.set {w : World} {B q j : Nat} {v u : Value} {ts : List Tr} (h : TW w B v ts) (hq : q < B) : TW (w.setCell ⟨q, j, none⟩ u) B v ts := by
  obtain ⟨xs, ks, ns, ss, us, h1, h2, h3⟩ := h
  refine ⟨xs, ks, ns, ss, us, ?_, h2, fun i hi => ?_⟩
  · cases e : v.ownBlock with
    | none =>
      obtain ⟨l1, l2⟩ := h1
      refine ⟨l1, ?_⟩
      rcases l2 with l2 | ⟨g, cap, cur, rfl, _⟩
      · exact Or.inl l2
      · simp [Value.ownBlock] at e
    | some g0 => exact ownsRow_far h1 (heap_setCell_other _ _ _ _ (by have := (h1.lt g0 e).1; simp; omega)) e
  · refine ((h3 i hi).kept (w' := w.setCell ⟨q, j, none⟩ u) (fun k hk => heap_setCell_other _ _ _ _ (by have := hk.1; simp; omega))).widen (fun k hk => ⟨hk.1, hk.2.1, by rw [World.size_setCell]; exact hk.2.2.1, trivial⟩)

/-- The result laid, in a block of the call's own. -/
theorem rd_end {q : Nat} {l : List Nat} {w w6 W : World} {t : Tr} {r : List Nat} {k : Int} {n j : Nat} {s : ByteArray} {u : Value} (hrc : Rc w6 q) (hW : W = (((w6.setCell ⟨q, 0, none⟩ (.int .i64 k)).setCell ⟨q, 1, none⟩ (.int .u64 n)).setCell ⟨q, 2, none⟩ (.string s)).setCell ⟨q, 3, none⟩ u)
    (hq : q = w.heap.size) (hb : Below w.heap.size w w6) (hcs : CS w6 (fun k => w.heap.size ≤ k ∧ k ≠ q) t (cellV k n s u)) (hj : j ≤ l.length) (hr : r = l.drop j) :
    (W.cell? ⟨q, 0, none⟩ = some (.int .i64 k) ∧ W.cell? ⟨q, 1, none⟩ = some (.int .u64 n) ∧ W.cell? ⟨q, 2, none⟩ = some (.string s) ∧ W.cell? ⟨q, 3, none⟩ = some u) ∧ RdP (.inr (t, r)) l w (.returned (.tuple #[.agg #[.int .i64 k, .int .u64 n, .string s, u], .int .i64 j, .int .i64 0])) W := by
  obtain ⟨h1, h2⟩ := hrc.set k n s u hW
  have hq1 : Qc W q k n s u := h1
  refine ⟨⟨hq1.c0, hq1.c1, hq1.c2, hq1.c3⟩, _, _, _, rfl, ?_, (hcs.kept (w' := W) (fun k hk => h2 k hk.2)).widen (fun k hk => hk.1), rfl, j, rfl, hj, hr⟩
  subst hW
  exact (((hb.setCell (by simp; omega) _).setCell (by simp; omega) _).setCell (by simp; omega) _).setCell (by simp; omega) _

end Go.Proofs.Ytbkjghhghefejaa
