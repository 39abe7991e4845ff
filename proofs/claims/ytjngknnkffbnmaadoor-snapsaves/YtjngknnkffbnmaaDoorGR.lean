/-
  Layer 7: the reference's read, walked.
-/
import Derived.Test.YtjngknnkffbnmaaDoorCdMath2q
import Derived.Deep.AppendLies
namespace Go.Proofs.YtjngknnkffbnmaaDoor
set_option maxRecDepth 100000
open Go.RowKit Crc

set_option maxHeartbeats 1000000 in
theorem rnum_any (v : Value) (l : List Nat) (w : World) (h : BR w v l) (hl : l.length ≤ 8) :
    Calls Tryd.prog 68 #[v] w fun e w' => e = .returned (.int .u64 (nb l : Nat)) ∧ w' = w := by
  have HB : Hid (BR w v l) := h
  obtain ⟨a, cap, rfl, k1, k2⟩ : ∃ a cap, v = .slice a l.length cap ∧ l.length ≤ cap ∧ cap ≤ maxLen := by
    obtain ⟨_, a, cap, e, k1, k2, _⟩ := h; exact ⟨a, cap, e, k1, k2⟩
  unfold maxLen at k2
  obtain ⟨s, hs⟩ : ∃ s, s = l.length := ⟨_, rfl⟩
  have HL : Hid (l.length = s) := hs.symm
  rw [← hs] at k1 hl HB ⊢
  clear h hs
  go_enter Tryd.func68, Tryd.ntmps68
  go_wp2_with fail
  go_loop [3, 4] (fun t3 t4 => ∃ i : Nat, i ≤ s ∧ t4 = .int .i64 i ∧ t3 = .int .u64 (nb (l.take i) : Nat)) (fun _ t4 => s - (intOf t4).toNat)
  case atStart => exact ⟨0, Nat.zero_le _, rfl, rfl⟩
  case round =>
    obtain ⟨i, hi, rfl, rfl⟩ := hrel
    by_cases c : i < s
    · obtain ⟨x, rfl, hcell, hd⟩ := HB.out.cell (i := i) (by rw [HL.out]; exact c)
      have hN := nb_take l i (by rw [HL.out]; exact c)
      have hlt : nb (l.take i) < 72057594037927936 := Nat.lt_of_lt_of_le (nb_lt HB.out.1 i (by rw [HL.out]; omega)) (Nat.pow_le_pow_right (n := 256) (j := 7) (by decide) (by omega))
      obtain ⟨N', hN'⟩ : ∃ N', N' = nb (l.take (i + 1)) := ⟨_, rfl⟩
      have HN : Hid (N' = nb (l.take (i + 1))) := hN'
      rw [← hN'] at hN
      clear hN'
      generalize nb (l.take i) = N at *
      generalize l.getD i 0 = d at *
      have hci : (i : Int) < (s : Int) := by omega
      have HE : Hid ((N' : Int) = (N : Int) * 256 + (d : Int)) := by show _ = _; omega
      clear hN
      go_wp2
      go_round
      case rel => exact ⟨i + 1, by omega, by go_num, by rw [← HN.out]; congr 1; exact HE.out.symm⟩
      case measure => simp [intOf]; omega
    · have e : i = s := by omega
      subst e
      have em : l.take i = l := by rw [← HL.out, List.take_length]
      rw [em]
      have hci : ¬ (i : Int) < (i : Int) := by omega
      go_wp2
      go_ret
      exact ⟨rfl, rfl⟩

/-- What the reference's read tells. -/
def RdP (r : Nat ⊕ (Tr × List Nat)) (l : List Nat) (w : World) (e : Ending) (w' : World) : Prop :=
  ∃ cv x y, e = .returned (.tuple #[cv, .int .i64 x, .int .i64 y]) ∧ Below w.heap.size w w' ∧ match r with
    | .inl z => cv = cellV 0 0 ⟨#[]⟩ (.slice none 0 0) ∧ x = 0 ∧ y = (z : Int)
    | .inr p => CS w' (fun k => w.heap.size ≤ k) p.1 cv ∧ y = 0 ∧ ∃ j : Nat, x = (j : Int) ∧ j ≤ l.length ∧ p.2 = l.drop j

/-- A block of the call's own that holds a cell. -/
def Qc (w : World) (q : Nat) (k : Int) (n : Nat) (s : ByteArray) (u : Value) : Prop := w.heap[q]? = some (.cells #[.int .i64 k, .int .u64 n, .string s, u] 26 (0, 0))
theorem Qc.c0 {w : World} {q : Nat} {k : Int} {n : Nat} {s : ByteArray} {u : Value} (h : Qc w q k n s u) : w.cell? ⟨q, 0, none⟩ = some (.int .i64 k) := cell_of_row w q 0 _ _ _ h
theorem Qc.c1 {w : World} {q : Nat} {k : Int} {n : Nat} {s : ByteArray} {u : Value} (h : Qc w q k n s u) : w.cell? ⟨q, 1, none⟩ = some (.int .u64 n) := cell_of_row w q 1 _ _ _ h
theorem Qc.c2 {w : World} {q : Nat} {k : Int} {n : Nat} {s : ByteArray} {u : Value} (h : Qc w q k n s u) : w.cell? ⟨q, 2, none⟩ = some (.string s) := cell_of_row w q 2 _ _ _ h
theorem Qc.c3 {w : World} {q : Nat} {k : Int} {n : Nat} {s : ByteArray} {u : Value} (h : Qc w q k n s u) : w.cell? ⟨q, 3, none⟩ = some u := cell_of_row w q 3 _ _ _ h
theorem Qc.free {w : World} {q : Nat} {k : Int} {n : Nat} {s : ByteArray} {u : Value} (h : Qc w q k n s u) (j : Nat) : w.frozen? ⟨q, j, none⟩ = false := by
  unfold Qc at h
  unfold World.frozen?
  simp [h]
theorem Qc.lt {w : World} {q : Nat} {k : Int} {n : Nat} {s : ByteArray} {u : Value} (h : Qc w q k n s u) : q < w.heap.size := by
  rcases Nat.lt_or_ge q w.heap.size with h1 | h1
  · exact h1
  · unfold Qc at h
    rw [Array.getElem?_eq_none h1] at h
    cases h
theorem Qc.same {w w' : World} {q : Nat} {k : Int} {n : Nat} {s : ByteArray} {u : Value} (h : Qc w q k n s u) (e : w'.heap[q]? = w.heap[q]?) : Qc w' q k n s u := e.trans h
theorem Qc.rc {w : World} {q : Nat} (h : Qc w q 0 0 ⟨#[]⟩ (.slice none 0 0)) : Rc w q := h

theorem TW.set {w : World} {B q j : Nat} {v u : Value} {ts : List Tr} (h : TW w B v ts) (hq : q < B) : TW (w.setCell ⟨q, j, none⟩ u) B v ts := by
  obtain ⟨xs, ks, ns, ss, us, h1, h2, h3⟩ := h
  refine ⟨xs, ks, ns, ss, us, ?_, h2, fun i hi => ?_⟩
  · cases e : v.ownBlock with
    | none =>
      obtain ⟨l1, l2⟩ := h1
      refine ⟨l1, ?_⟩
      rcases l2 with l2 | ⟨g, cap, cur, rfl, _⟩
      · exact Or.inl l2
      · simp [Value.ownBlock] at e
    | some g0 => exact ownsRow_far h1 (heap_setCell_other _ _ _ _ (by have := (h1.lt g0 e).1; simp; omega)) e
  · refine ((h3 i hi).kept (w' := w.setCell ⟨q, j, none⟩ u) (fun k hk => heap_setCell_other _ _ _ _ (by have := hk.1; simp; omega))).widen (fun k hk => ⟨hk.1, hk.2.1, by rw [World.size_setCell]; exact hk.2.2.1, trivial⟩)

/-- The result laid, in a block of the call's own. -/
theorem rd_end {q : Nat} {l : List Nat} {w w6 W : World} {t : Tr} {r : List Nat} {k : Int} {n j : Nat} {s : ByteArray} {u : Value} (hrc : Rc w6 q) (hW : W = (((w6.setCell ⟨q, 0, none⟩ (.int .i64 k)).setCell ⟨q, 1, none⟩ (.int .u64 n)).setCell ⟨q, 2, none⟩ (.string s)).setCell ⟨q, 3, none⟩ u)
    (hq : q = w.heap.size) (hb : Below w.heap.size w w6) (hcs : CS w6 (fun k => w.heap.size ≤ k ∧ k ≠ q) t (cellV k n s u)) (hj : j ≤ l.length) (hr : r = l.drop j) :
    (W.cell? ⟨q, 0, none⟩ = some (.int .i64 k) ∧ W.cell? ⟨q, 1, none⟩ = some (.int .u64 n) ∧ W.cell? ⟨q, 2, none⟩ = some (.string s) ∧ W.cell? ⟨q, 3, none⟩ = some u) ∧ RdP (.inr (t, r)) l w (.returned (.tuple #[.agg #[.int .i64 k, .int .u64 n, .string s, u], .int .i64 j, .int .i64 0])) W := by
  obtain ⟨h1, h2⟩ := hrc.set k n s u hW
  have hq1 : Qc W q k n s u := h1
  refine ⟨⟨hq1.c0, hq1.c1, hq1.c2, hq1.c3⟩, _, _, _, rfl, ?_, (hcs.kept (w' := W) (fun k hk => h2 k hk.2)).widen (fun k hk => hk.1), rfl, j, rfl, hj, hr⟩
  subst hW
  exact (((hb.setCell (by simp; omega) _).setCell (by simp; omega) _).setCell (by simp; omega) _).setCell (by simp; omega) _

end Go.Proofs.YtjngknnkffbnmaaDoor
namespace Go.Proofs.YtjngknnkffbnmaaDoor
set_option maxRecDepth 100000
open Go.RowKit Crc

/-- Nothing read: the result's block is laid with noughts. -/
theorem rd_err {q z : Nat} {l : List Nat} {w w6 W : World} {r : Nat ⊕ (Tr × List Nat)} (hr : r = .inl z) (hrc : Rc w6 q) (hW : W = (((w6.setCell ⟨q, 0, none⟩ (.int .i64 0)).setCell ⟨q, 1, none⟩ (.int .u64 0)).setCell ⟨q, 2, none⟩ (.string ⟨#[]⟩)).setCell ⟨q, 3, none⟩ (.slice none 0 0))
    (hq : q = w.heap.size) (hb : Below w.heap.size w w6) :
    (W.cell? ⟨q, 0, none⟩ = some (.int .i64 0) ∧ W.cell? ⟨q, 1, none⟩ = some (.int .u64 0) ∧ W.cell? ⟨q, 2, none⟩ = some (.string ⟨#[]⟩) ∧ W.cell? ⟨q, 3, none⟩ = some (.slice none 0 0)) ∧ RdP r l w (.returned (.tuple #[.agg #[.int .i64 0, .int .u64 0, .string ⟨#[]⟩, .slice none 0 0], .int .i64 0, .int .i64 z])) W := by
  obtain ⟨h1, h2⟩ := hrc.set 0 0 ⟨#[]⟩ (.slice none 0 0) hW
  have hq1 : Qc W q 0 0 ⟨#[]⟩ (.slice none 0 0) := h1
  refine ⟨⟨hq1.c0, hq1.c1, hq1.c2, hq1.c3⟩, ?_⟩
  rw [hr]
  refine ⟨_, _, _, rfl, ?_, rfl, rfl, rfl⟩
  subst hW
  exact (((hb.setCell (by simp; omega) _).setCell (by simp; omega) _).setCell (by simp; omega) _).setCell (by simp; omega) _

/-- So many bytes from a place on. -/
theorem BR.at {w : World} {x : Addr} {n cap : Nat} {l : List Nat} (h : BR w (.slice (some x) n cap) l) {lo m : Nat} (h1 : lo + m ≤ l.length) (h0 : 0 < lo) : BR w (.slice (some ⟨x.block, x.off + lo, none⟩) m (cap - lo)) ((l.drop lo).take m) := by
  have hlen : ((l.drop lo).take m).length = m := by rw [List.length_take, List.length_drop]; omega
  obtain ⟨s1, a, c, e, h3, h4, h5⟩ := h
  simp only [Value.slice.injEq] at e
  obtain ⟨rfl, rfl, rfl⟩ := e
  refine ⟨(s1.drop lo).take m, _, cap - lo, by rw [hlen], by rw [hlen]; omega, by omega, Or.inr ⟨_, rfl, fun i hi => ?_⟩⟩
  rw [hlen] at hi
  rcases h5 with ⟨e, _⟩ | ⟨y, e, hc⟩
  · cases e
  · injection e with e
    subst e
    have e1 : (⟨x.block, x.off + lo, none⟩ : Addr).add i = x.add (lo + i) := by
      unfold Addr.add
      rw [if_neg (by omega : ¬ lo + i = 0)]
      split
      · next hz => subst hz; rfl
      · simp [Nat.add_assoc]
    rw [e1, hc (lo + i) (by omega)]
    congr 2
    rw [List.getD_eq_getElem?_getD, List.getD_eq_getElem?_getD, List.getElem?_take_of_lt hi, List.getElem?_drop]

theorem decL_err (f : List Nat → Nat ⊕ (Tr × List Nat)) (hf : ∀ l z, f l = .inl z → z = 2 ∨ z = 3 ∨ z = 4) : ∀ (n : Nat) (l : List Nat) (z : Nat), decL f n l = .inl z → z = 2 ∨ z = 3 ∨ z = 4
  | 0, l, z, h => by simp [decL] at h
  | n + 1, l, z, h => by
    rw [decL_succ] at h
    cases h1 : f l with
    | inl y => rw [h1] at h; injection h with h; subst h; exact hf l y h1
    | inr p =>
      obtain ⟨t, l2⟩ := p
      rw [h1] at h
      simp only at h
      cases h2 : decL f n l2 with
      | inl y => rw [h2] at h; injection h with h; subst h; exact decL_err f hf n l2 y h2
      | inr q => rw [h2] at h; cases h

theorem dec_err : ∀ (D : Nat) (l : List Nat) (z : Nat), decT D l = .inl z → z = 2 ∨ z = 3 ∨ z = 4 := by
  intro D
  induction D with
  | zero =>
    intro l z h
    cases l with
    | nil => unfold decT at h; injection h with h; omega
    | cons k l =>
      unfold decT at h
      repeat' split at h
      all_goals first | (injection h with h; omega) | cases h
  | succ D ih =>
    intro l z h
    cases l with
    | nil => unfold decT at h; injection h with h; omega
    | cons k l =>
      unfold decT at h
      by_cases k2 : k = 2
      · rw [if_neg (by omega), if_neg (by omega), if_pos k2] at h
        simp only at h
        by_cases c : l.length < 4
        · rw [if_pos c] at h; injection h with h; omega
        · rw [if_neg c] at h
          by_cases c2 : l.length - 4 < nb (l.take 4)
          · rw [if_pos c2] at h; injection h with h; omega
          · rw [if_neg c2] at h
            cases h1 : decL (decT D) (nb (l.take 4)) (l.drop 4) with
            | inl y => rw [h1] at h; injection h with h; subst h; exact decL_err _ ih _ _ y h1
            | inr q => rw [h1] at h; cases h
      · rw [if_neg k2] at h
        repeat' split at h
        all_goals first | (injection h with h; omega) | cases h

set_option maxRecDepth 100000 in
set_option maxHeartbeats 8000000 in
theorem read_of (D : Nat) (hD : D ≤ 64) (HC : ∀ D', D = D' + 1 → ∀ (v : Value) (l : List Nat) (at0 : Nat) (w : World), BR w v l → l.length ≤ 1048576 → at0 ≤ l.length → Calls Tryd.prog 58 #[v, .int .i64 at0, .int .i64 (64 - (D' : Int))] w (RdP (decT D' (l.drop at0)) l w))
    (v : Value) (l : List Nat) (at0 : Nat) (w : World) (h : BR w v l) (hl : l.length ≤ 1048576) (hat : at0 ≤ l.length) :
    Calls Tryd.prog 58 #[v, .int .i64 at0, .int .i64 (64 - (D : Int))] w (RdP (decT D (l.drop at0)) l w) := by
  obtain ⟨d, hd⟩ : ∃ d : Int, d = 64 - (D : Int) := ⟨_, rfl⟩
  rw [← hd]
  have HD : Hid (d = 64 - (D : Int)) := hd
  have hd3 : 0 ≤ d ∧ d ≤ 64 := by omega
  have HHC : Hid _ := HC
  clear hd HC
  have HBR : Hid (BR w v l) := h
  obtain ⟨a, cap, rfl, hcap⟩ : ∃ a cap, v = .slice a l.length cap ∧ (l.length ≤ cap ∧ cap ≤ 9223372036854775807) := by
    obtain ⟨_, a, cap, e, h1, h2, _⟩ := h
    unfold maxLen at h2
    exact ⟨a, cap, e, h1, by omega⟩
  obtain ⟨r, hr⟩ : ∃ r, r = decT D (l.drop at0) := ⟨_, rfl⟩
  rw [← hr]
  have HR : Hid (r = decT D (l.drop at0)) := hr
  clear hr
  obtain ⟨w1, hw1⟩ : ∃ w1, w1 = w.alloc (.cells #[.int .i64 0, .int .u64 0, .string ⟨#[]⟩, .slice none 0 0] 26) := ⟨_, rfl⟩
  have hs1 : w1.heap.size = w.heap.size + 1 := by rw [hw1]; simp
  have hb1 : Below w.heap.size w w1 := by rw [hw1]; exact (Below.refl _ _).alloc (Nat.le_refl _) _
  have q1 : Qc w1 w.heap.size 0 0 ⟨#[]⟩ (.slice none 0 0) := by rw [hw1]; exact heap_alloc_new _ _
  by_cases c0 : l.length ≤ at0
  · have HQ : Hid (RdP r l w (.returned (.tuple #[.agg #[.int .i64 0, .int .u64 0, .string ⟨#[]⟩, .slice none 0 0], .int .i64 0, .int .i64 3])) w1) := by
      have e : l.drop at0 = [] := List.drop_eq_nil_of_le c0
      have e2 : r = .inl 3 := by rw [HR.out, e]; unfold decT; rfl
      show RdP r l w _ w1
      rw [e2]
      exact ⟨_, _, _, rfl, hb1, rfl, rfl, rfl⟩
    have ci : (at0 : Int) ≥ (l.length : Int) := by omega
    obtain ⟨y0, y1, y2, y3⟩ := And.intro q1.c0 (And.intro q1.c1 (And.intro q1.c2 q1.c3))
    clear h q1 hb1
    go_enter Tryd.func58, Tryd.ntmps58
    go_wp2
    rw [← hw1]
    clear hw1
    refine bodyPost_ret ?_ rfl HQ.out
    simp [results, Tryd.results58, go_sem, y0, y1, y2, y3]
  · have ci : ¬ (at0 : Int) ≥ (l.length : Int) := by omega
    obtain ⟨x, rfl, hcell, hk8⟩ := h.cell (i := at0) (by omega)
    have hdrop : l.drop at0 = l.getD at0 0 :: l.drop (at0 + 1) := by
      rw [List.drop_eq_getElem_cons (by omega)]
      congr 1
      simp [show at0 < l.length by omega]
    obtain ⟨k, hk⟩ : ∃ k, k = l.getD at0 0 := ⟨_, rfl⟩
    rw [← hk] at hcell hk8 hdrop
    have HR1 : Hid (r = decT D (k :: l.drop (at0 + 1))) := by show _ = _; rw [HR.out, hdrop]
    have hcell1 : ∀ o : Obj, (w.alloc o).cell? (x.add at0) = some (.int .u8 k) := fun o => cell_kept ((Below.refl _ w).alloc (Nat.le_refl _) o) (Nat.le_refl _) hcell
    obtain ⟨w2, hw2⟩ : ∃ w2, w2 = (w.alloc (.cells #[.int .i64 0, .int .u64 0, .string ⟨#[]⟩, .slice none 0 0] 26)).alloc (.cells #[.int .i64 k, .int .u64 0, .string ⟨#[]⟩, .slice none 0 0] 26) := ⟨_, rfl⟩
    have hs2 : w2.heap.size = w.heap.size + 2 := by rw [hw2]; simp
    have hb2 : Below w.heap.size w w2 := by rw [hw2]; exact ((Below.refl _ _).alloc (Nat.le_refl _) _).alloc (by simp) _
    have HB2 : Hid (Below w.heap.size w w2) := hb2
    have HQ1 : Hid (Qc w2 w.heap.size 0 0 ⟨#[]⟩ (.slice none 0 0)) := by
      rw [hw2, ← hw1]
      exact q1.same (Below.heap_alloc _ _ _ (by omega))
    have HQ2 : Hid (Qc w2 (w.heap.size + 1) k 0 ⟨#[]⟩ (.slice none 0 0)) := by
      have e := heap_alloc_new w1 (.cells #[.int .i64 k, .int .u64 0, .string ⟨#[]⟩, .slice none 0 0] 26)
      rw [hs1, hw1, ← hw2] at e
      exact e
    have HE : Hid (∀ z : Nat, r = .inl z → RdP r l w (.returned (.tuple #[.agg #[.int .i64 0, .int .u64 0, .string ⟨#[]⟩, .slice none 0 0], .int .i64 0, .int .i64 z])) w2) := by
      intro z hz
      rw [hz]
      exact ⟨_, _, _, rfl, HB2.out, rfl, rfl, rfl⟩
    have y0 := HQ1.out.c0
    have y1 := HQ1.out.c1
    have y2 := HQ1.out.c2
    have y3 := HQ1.out.c3
    clear h q1 hb1 hw1 hb2 hk hdrop
    by_cases k2 : 2 < k
    · have HQ : Hid _ := HE.out 4 (by rw [HR1.out]; unfold decT; rw [if_neg (by omega), if_neg (by omega), if_neg (by omega)])
      have ki : (k : Int) > 2 := by omega
      go_enter Tryd.func58, Tryd.ntmps58
      go_wp2
      rw [← hw2]
      clear hw2
      refine bodyPost_ret ?_ rfl HQ.out
      simp [results, Tryd.results58, go_sem, y0, y1, y2, y3]
    · have ki : ¬ (k : Int) > 2 := by omega
      by_cases k0 : k = 0
      · subst k0
        rw [show ((0 : Nat) : Int) = 0 from rfl] at hw2 hcell1 HQ2
        by_cases c9 : l.length < at0 + 1 + 8
        · have HQ : Hid _ := HE.out 3 (by rw [HR1.out]; unfold decT; rw [if_pos rfl, if_pos (by rw [List.length_drop]; omega)])
          have c9i : (at0 : Int) + 1 + 8 > (l.length : Int) := by omega
          go_enter Tryd.func58, Tryd.ntmps58
          go_wp2
          rw [← hw2]
          clear hw2
          refine bodyPost_ret ?_ rfl HQ.out
          simp [results, Tryd.results58, go_sem, y0, y1, y2, y3]
        · have c9i : ¬ (at0 : Int) + 1 + 8 > (l.length : Int) := by omega
          have ca : (at0 : Int) + 1 + 8 ≤ (cap : Int) := by omega
          have cb : ¬ at0 + 1 = cap := by omega
          have b3 : BR w2 (.slice (some ⟨x.block, x.off + (at0 + 1), none⟩) 8 (cap - (at0 + 1))) ((l.drop (at0 + 1)).take 8) := (HBR.out.at (by omega) (by omega)).below HB2.out (Nat.le_refl _)
          have hnum := rnum_any _ _ w2 b3 (by rw [List.length_take]; omega)
          have HN : Hid (nb ((l.drop (at0 + 1)).take 8) < 18446744073709551616) := nb_lt ((HBR.out.1).drop (at0 + 1)) 8 (by rw [List.length_drop]; omega)
          have HR2 : Hid (r = .inr (.mk 0 (nb ((l.drop (at0 + 1)).take 8)) ⟨#[]⟩ [], l.drop (at0 + 1 + 8))) := by
            show _ = _
            rw [HR1.out]; unfold decT; rw [if_pos rfl, if_neg (by rw [List.length_drop]; omega), List.drop_drop]
          generalize nb ((l.drop (at0 + 1)).take 8) = N at *
          clear b3
          go_enter Tryd.func58, Tryd.ntmps58
          go_wp2_with fail
          rw [← hw2]
          clear hw2
          refine hnum.mono ?_
          rintro e w3 ⟨rfl, rfl⟩
          clear hnum
          have z0 := HQ2.out.c0
          have z1 := HQ2.out.c1
          have z2 := HQ2.out.c2
          have z3 := HQ2.out.c3
          have f1 := HQ2.out.free 1
          have g0 := HQ1.out.free 0
          have g1 := HQ1.out.free 1
          have g2 := HQ1.out.free 2
          have g3 := HQ1.out.free 3
          have HP : Hid (∀ W : World, W = ((((w3.setCell ⟨w.heap.size + 1, 1, none⟩ (.int .u64 N)).setCell ⟨w.heap.size, 0, none⟩ (.int .i64 0)).setCell ⟨w.heap.size, 1, none⟩ (.int .u64 N)).setCell ⟨w.heap.size, 2, none⟩ (.string ⟨#[]⟩)).setCell ⟨w.heap.size, 3, none⟩ (.slice none 0 0) → (W.cell? ⟨w.heap.size, 0, none⟩ = some (.int .i64 0) ∧ W.cell? ⟨w.heap.size, 1, none⟩ = some (.int .u64 N) ∧ W.cell? ⟨w.heap.size, 2, none⟩ = some (.string ⟨#[]⟩) ∧ W.cell? ⟨w.heap.size, 3, none⟩ = some (.slice none 0 0)) ∧ RdP r l w (.returned (.tuple #[.agg #[.int .i64 0, .int .u64 N, .string ⟨#[]⟩, .slice none 0 0], .int .i64 ((at0 + 1 + 8 : Nat) : Int), .int .i64 0])) W) := by
            intro W hW
            rw [HR2.out]
            have hrc : Rc (w3.setCell ⟨w.heap.size + 1, 1, none⟩ (.int .u64 N)) w.heap.size := (HQ1.out.same (heap_setCell_other _ _ _ _ (by simp))).rc
            exact rd_end hrc hW rfl (HB2.out.setCell (by simp) _) (CS_flat _ _ 0 N ⟨#[]⟩ (by decide) HN.out (by decide)) (by omega) rfl
          go_wp2
          obtain ⟨⟨t0, t1, t2, t3⟩, hP⟩ := HP.out _ rfl
          clear HP
          refine bodyPost_ret ?_ rfl hP
          generalize ((((w3.setCell ⟨w.heap.size + 1, 1, none⟩ (.int .u64 N)).setCell ⟨w.heap.size, 0, none⟩ (.int .i64 0)).setCell ⟨w.heap.size, 1, none⟩ (.int .u64 N)).setCell ⟨w.heap.size, 2, none⟩ (.string ⟨#[]⟩)).setCell ⟨w.heap.size, 3, none⟩ (.slice none 0 0) = W at *
          simp [results, Tryd.results58, go_sem, t0, t1, t2, t3]
      · by_cases k1 : k = 1
        · subst k1
          rw [show ((1 : Nat) : Int) = 1 from rfl] at hw2 hcell1 HQ2
          by_cases c5 : l.length < at0 + 1 + 4
          · have HQ : Hid _ := HE.out 3 (by rw [HR1.out]; unfold decT; rw [if_neg (by decide), if_pos rfl, if_pos (by rw [List.length_drop]; omega)])
            have c5i : (at0 : Int) + 1 + 4 > (l.length : Int) := by omega
            go_enter Tryd.func58, Tryd.ntmps58
            go_wp2
            rw [← hw2]
            clear hw2
            refine bodyPost_ret ?_ rfl HQ.out
            simp [results, Tryd.results58, go_sem, y0, y1, y2, y3]
          · have c5i : ¬ (at0 : Int) + 1 + 4 > (l.length : Int) := by omega
            have ca : (at0 : Int) + 1 + 4 ≤ (cap : Int) := by omega
            have cb : ¬ at0 + 1 = cap := by omega
            have b3 : BR w2 (.slice (some ⟨x.block, x.off + (at0 + 1), none⟩) 4 (cap - (at0 + 1))) ((l.drop (at0 + 1)).take 4) := (HBR.out.at (by omega) (by omega)).below HB2.out (Nat.le_refl _)
            have hnum := rnum_any _ _ w2 b3 (by rw [List.length_take]; omega)
            have hN32 : nb ((l.drop (at0 + 1)).take 4) < 4294967296 := nb_lt ((HBR.out.1).drop (at0 + 1)) 4 (by rw [List.length_drop]; omega)
            clear b3
            have HR2 : Hid (r = if l.length - (at0 + 1) - 4 < nb ((l.drop (at0 + 1)).take 4) then .inl 3 else .inr (.mk 1 0 (bsN ((l.drop (at0 + 1 + 4)).take (nb ((l.drop (at0 + 1)).take 4)))) [], l.drop (at0 + 1 + 4 + nb ((l.drop (at0 + 1)).take 4)))) := by
              show _ = _
              rw [HR1.out]; unfold decT; rw [if_neg (by decide), if_pos rfl, if_neg (by rw [List.length_drop]; omega), List.drop_drop, List.length_drop, List.drop_drop]
            generalize nb ((l.drop (at0 + 1)).take 4) = N at *
            go_enter Tryd.func58, Tryd.ntmps58
            go_wp2_with fail
            rw [← hw2]
            clear hw2
            refine hnum.mono ?_
            rintro e w3 ⟨rfl, rfl⟩
            clear hnum
            have z0 := HQ2.out.c0
            have z1 := HQ2.out.c1
            have z2 := HQ2.out.c2
            have z3 := HQ2.out.c3
            have f2 := HQ2.out.free 2
            have f3 := HQ2.out.free 3
            have g0 := HQ1.out.free 0
            have g1 := HQ1.out.free 1
            have g2 := HQ1.out.free 2
            have g3 := HQ1.out.free 3
            have hm1 : ((l.length : Int) - ((at0 : Int) + 1 + 4)) % 18446744073709551616 = (l.length : Int) - ((at0 : Int) + 1 + 4) := by omega
            by_cases cn : l.length - (at0 + 1) - 4 < N
            · replace HR2 : Hid (r = .inl 3) := by show _ = _; rw [HR2.out, if_pos cn]
              have ni : (N : Int) > (l.length : Int) - ((at0 : Int) + 1 + 4) := by omega
              have HP : Hid (∀ W : World, W = (((w3.setCell ⟨w.heap.size, 0, none⟩ (.int .i64 0)).setCell ⟨w.heap.size, 1, none⟩ (.int .u64 0)).setCell ⟨w.heap.size, 2, none⟩ (.string ⟨#[]⟩)).setCell ⟨w.heap.size, 3, none⟩ (.slice none 0 0) → (W.cell? ⟨w.heap.size, 0, none⟩ = some (.int .i64 0) ∧ W.cell? ⟨w.heap.size, 1, none⟩ = some (.int .u64 0) ∧ W.cell? ⟨w.heap.size, 2, none⟩ = some (.string ⟨#[]⟩) ∧ W.cell? ⟨w.heap.size, 3, none⟩ = some (.slice none 0 0)) ∧ RdP r l w (.returned (.tuple #[.agg #[.int .i64 0, .int .u64 0, .string ⟨#[]⟩, .slice none 0 0], .int .i64 0, .int .i64 (3 : Nat)])) W) := fun W hW => rd_err HR2.out HQ1.out.rc hW rfl HB2.out
              go_wp2
              obtain ⟨⟨t0, t1, t2, t3⟩, hP⟩ := HP.out _ rfl
              clear HP
              refine bodyPost_ret ?_ rfl hP
              generalize (((w3.setCell ⟨w.heap.size, 0, none⟩ (.int .i64 0)).setCell ⟨w.heap.size, 1, none⟩ (.int .u64 0)).setCell ⟨w.heap.size, 2, none⟩ (.string ⟨#[]⟩)).setCell ⟨w.heap.size, 3, none⟩ (.slice none 0 0) = W at *
              simp [results, Tryd.results58, go_sem, t0, t1, t2, t3]
            · have ni : ¬ (N : Int) > (l.length : Int) - ((at0 : Int) + 1 + 4) := by omega
              obtain ⟨T, hT⟩ : ∃ T, T = bsN ((l.drop (at0 + 1 + 4)).take N) := ⟨_, rfl⟩
              replace HR2 : Hid (r = .inr (.mk 1 0 T [], l.drop (at0 + 1 + 4 + N))) := by show _ = _; rw [HR2.out, if_neg cn, hT]
              have HTS : Hid (T.size ≤ 9223372036854775807) := by show _ ≤ _; rw [hT, bsN_size, List.length_take, List.length_drop]; omega
              have ch : (at0 : Int) + 1 + 4 + (N : Int) ≤ (cap : Int) := by omega
              by_cases ce : at0 + 1 + 4 = cap
              · have hN0 : N = 0 := by omega
                subst hN0
                have b4 : BR (w3) (.slice (some x) 0 0) [] := ⟨fun d hd => by simp at hd, some x, 0, rfl, Nat.le_refl _, by unfold maxLen; omega, Or.inr ⟨x, rfl, fun i hi => by simp at hi⟩⟩
                have hcv := conv_any b4
                have eT : bsN [] = T := by rw [hT, List.take_zero]
                rw [eT] at hcv
                clear hT b4 eT
                subst ce
                clear ca ch hcap
                have HP : Hid (∀ W : World, W = ((((w3.setCell ⟨w.heap.size + 1, 2, none⟩ (.string T)).setCell ⟨w.heap.size, 0, none⟩ (.int .i64 1)).setCell ⟨w.heap.size, 1, none⟩ (.int .u64 0)).setCell ⟨w.heap.size, 2, none⟩ (.string T)).setCell ⟨w.heap.size, 3, none⟩ (.slice none 0 0) → (W.cell? ⟨w.heap.size, 0, none⟩ = some (.int .i64 1) ∧ W.cell? ⟨w.heap.size, 1, none⟩ = some (.int .u64 0) ∧ W.cell? ⟨w.heap.size, 2, none⟩ = some (.string T) ∧ W.cell? ⟨w.heap.size, 3, none⟩ = some (.slice none 0 0)) ∧ RdP r l w (.returned (.tuple #[.agg #[.int .i64 1, .int .u64 0, .string T, .slice none 0 0], .int .i64 ((at0 + 1 + 4 + 0 : Nat) : Int), .int .i64 0])) W) := by
                  intro W hW
                  rw [HR2.out]
                  have hrc : Rc (w3.setCell ⟨w.heap.size + 1, 2, none⟩ (.string T)) w.heap.size := (HQ1.out.same (heap_setCell_other _ _ _ _ (by simp))).rc
                  exact rd_end (n := 0) hrc hW rfl (HB2.out.setCell (by simp) _) (CS_flat _ _ 1 0 T (by decide) (by decide) HTS.out) (by omega) rfl
                go_wp2
                obtain ⟨⟨t0, t1, t2, t3⟩, hP⟩ := HP.out _ rfl
                clear HP
                refine bodyPost_ret ?_ rfl hP
                generalize ((((w3.setCell ⟨w.heap.size + 1, 2, none⟩ (.string T)).setCell ⟨w.heap.size, 0, none⟩ (.int .i64 1)).setCell ⟨w.heap.size, 1, none⟩ (.int .u64 0)).setCell ⟨w.heap.size, 2, none⟩ (.string T)).setCell ⟨w.heap.size, 3, none⟩ (.slice none 0 0) = W at *
                simp [results, Tryd.results58, go_sem, t0, t1, t2, t3]
                omega
              · have b4 : BR w3 (.slice (some ⟨x.block, x.off + (at0 + 1 + 4), none⟩) N (cap - (at0 + 1 + 4))) ((l.drop (at0 + 1 + 4)).take N) := (HBR.out.at (by omega) (by omega)).below HB2.out (Nat.le_refl _)
                have hcv := conv_any b4
                rw [← hT] at hcv
                clear hT b4
                have HP : Hid (∀ W : World, W = ((((w3.setCell ⟨w.heap.size + 1, 2, none⟩ (.string T)).setCell ⟨w.heap.size, 0, none⟩ (.int .i64 1)).setCell ⟨w.heap.size, 1, none⟩ (.int .u64 0)).setCell ⟨w.heap.size, 2, none⟩ (.string T)).setCell ⟨w.heap.size, 3, none⟩ (.slice none 0 0) → (W.cell? ⟨w.heap.size, 0, none⟩ = some (.int .i64 1) ∧ W.cell? ⟨w.heap.size, 1, none⟩ = some (.int .u64 0) ∧ W.cell? ⟨w.heap.size, 2, none⟩ = some (.string T) ∧ W.cell? ⟨w.heap.size, 3, none⟩ = some (.slice none 0 0)) ∧ RdP r l w (.returned (.tuple #[.agg #[.int .i64 1, .int .u64 0, .string T, .slice none 0 0], .int .i64 ((at0 + 1 + 4 + N : Nat) : Int), .int .i64 0])) W) := by
                  intro W hW
                  rw [HR2.out]
                  have hrc : Rc (w3.setCell ⟨w.heap.size + 1, 2, none⟩ (.string T)) w.heap.size := (HQ1.out.same (heap_setCell_other _ _ _ _ (by simp))).rc
                  exact rd_end (n := 0) hrc hW rfl (HB2.out.setCell (by simp) _) (CS_flat _ _ 1 0 T (by decide) (by decide) HTS.out) (by omega) rfl
                go_wp2
                obtain ⟨⟨t0, t1, t2, t3⟩, hP⟩ := HP.out _ rfl
                clear HP
                refine bodyPost_ret ?_ rfl hP
                generalize ((((w3.setCell ⟨w.heap.size + 1, 2, none⟩ (.string T)).setCell ⟨w.heap.size, 0, none⟩ (.int .i64 1)).setCell ⟨w.heap.size, 1, none⟩ (.int .u64 0)).setCell ⟨w.heap.size, 2, none⟩ (.string T)).setCell ⟨w.heap.size, 3, none⟩ (.slice none 0 0) = W at *
                simp [results, Tryd.results58, go_sem, t0, t1, t2, t3]
        · have k2 : k = 2 := by omega
          subst k2
          rw [show ((2 : Nat) : Int) = 2 from rfl] at hw2 hcell1 HQ2
          cases D with
          | zero =>
            have HQ : Hid _ := HE.out 2 (by rw [HR1.out]; unfold decT; rw [if_neg (by decide), if_neg (by decide), if_pos rfl])
            have hd64 : d = 64 := HD.out
            subst hd64
            go_enter Tryd.func58, Tryd.ntmps58
            go_wp2
            rw [← hw2]
            clear hw2
            refine bodyPost_ret ?_ rfl HQ.out
            simp [results, Tryd.results58, go_sem, y0, y1, y2, y3]
          | succ D =>
          have hd64 : ¬ d ≥ 64 := by have := HD.out; omega
          have HD2 : Hid (d + 1 = 64 - (D : Int)) := by show _ = _; have := HD.out; omega
          by_cases c5 : l.length < at0 + 1 + 4
          · have HQ : Hid _ := HE.out 3 (by rw [HR1.out]; unfold decT; rw [if_neg (by decide), if_neg (by decide), if_pos rfl]; simp only; rw [if_pos (by rw [List.length_drop]; omega)])
            have c5i : (at0 : Int) + 1 + 4 > (l.length : Int) := by omega
            go_enter Tryd.func58, Tryd.ntmps58
            go_wp2
            rw [← hw2]
            clear hw2
            refine bodyPost_ret ?_ rfl HQ.out
            simp [results, Tryd.results58, go_sem, y0, y1, y2, y3]
          · have c5i : ¬ (at0 : Int) + 1 + 4 > (l.length : Int) := by omega
            have ca : (at0 : Int) + 1 + 4 ≤ (cap : Int) := by omega
            have cb : ¬ at0 + 1 = cap := by omega
            have b3 : BR w2 (.slice (some ⟨x.block, x.off + (at0 + 1), none⟩) 4 (cap - (at0 + 1))) ((l.drop (at0 + 1)).take 4) := (HBR.out.at (by omega) (by omega)).below HB2.out (Nat.le_refl _)
            have hnum := rnum_any _ _ w2 b3 (by rw [List.length_take]; omega)
            have hN32 : nb ((l.drop (at0 + 1)).take 4) < 4294967296 := nb_lt ((HBR.out.1).drop (at0 + 1)) 4 (by rw [List.length_drop]; omega)
            clear b3
            have HR2 : Hid (r = if l.length - (at0 + 1) - 4 < nb ((l.drop (at0 + 1)).take 4) then .inl 3 else match decL (decT D) (nb ((l.drop (at0 + 1)).take 4)) (l.drop (at0 + 1 + 4)) with
                | .inl x => .inl x
                | .inr (ts, l2) => .inr (.mk 2 0 ⟨#[]⟩ ts, l2)) := by
              show _ = _
              rw [HR1.out]; conv => lhs; unfold decT
              rw [if_neg (by decide), if_neg (by decide), if_pos rfl]
              simp only
              rw [if_neg (by rw [List.length_drop]; omega), List.drop_drop, List.length_drop]
              split
              · rfl
              · cases decL (decT D) (nb ((l.drop (at0 + 1)).take 4)) (l.drop (at0 + 1 + 4)) <;> rfl
            generalize nb ((l.drop (at0 + 1)).take 4) = N at *
            go_enter Tryd.func58, Tryd.ntmps58
            go_wp2_with fail
            rw [← hw2]
            clear hw2
            refine hnum.mono ?_
            rintro e w3 ⟨rfl, rfl⟩
            clear hnum
            have z0 := HQ2.out.c0
            have z1 := HQ2.out.c1
            have z2 := HQ2.out.c2
            have z3 := HQ2.out.c3
            have g0 := HQ1.out.free 0
            have g1 := HQ1.out.free 1
            have g2 := HQ1.out.free 2
            have g3 := HQ1.out.free 3
            have hm1 : ((l.length : Int) - ((at0 : Int) + 1 + 4)) % 18446744073709551616 = (l.length : Int) - ((at0 : Int) + 1 + 4) := by omega
            by_cases cn : l.length - (at0 + 1) - 4 < N
            · replace HR2 : Hid (r = .inl 3) := by show _ = _; rw [HR2.out, if_pos cn]
              have ni : (N : Int) > (l.length : Int) - ((at0 : Int) + 1 + 4) := by omega
              have HP : Hid (∀ W : World, W = (((w3.setCell ⟨w.heap.size, 0, none⟩ (.int .i64 0)).setCell ⟨w.heap.size, 1, none⟩ (.int .u64 0)).setCell ⟨w.heap.size, 2, none⟩ (.string ⟨#[]⟩)).setCell ⟨w.heap.size, 3, none⟩ (.slice none 0 0) → (W.cell? ⟨w.heap.size, 0, none⟩ = some (.int .i64 0) ∧ W.cell? ⟨w.heap.size, 1, none⟩ = some (.int .u64 0) ∧ W.cell? ⟨w.heap.size, 2, none⟩ = some (.string ⟨#[]⟩) ∧ W.cell? ⟨w.heap.size, 3, none⟩ = some (.slice none 0 0)) ∧ RdP r l w (.returned (.tuple #[.agg #[.int .i64 0, .int .u64 0, .string ⟨#[]⟩, .slice none 0 0], .int .i64 0, .int .i64 (3 : Nat)])) W) := fun W hW => rd_err HR2.out HQ1.out.rc hW rfl HB2.out
              go_wp2
              obtain ⟨⟨t0, t1, t2, t3⟩, hP⟩ := HP.out _ rfl
              clear HP
              refine bodyPost_ret ?_ rfl hP
              generalize (((w3.setCell ⟨w.heap.size, 0, none⟩ (.int .i64 0)).setCell ⟨w.heap.size, 1, none⟩ (.int .u64 0)).setCell ⟨w.heap.size, 2, none⟩ (.string ⟨#[]⟩)).setCell ⟨w.heap.size, 3, none⟩ (.slice none 0 0) = W at *
              simp [results, Tryd.results58, go_sem, t0, t1, t2, t3]
            · have ni : ¬ (N : Int) > (l.length : Int) - ((at0 : Int) + 1 + 4) := by omega
              replace HR2 : Hid (r = match decL (decT D) N (l.drop (at0 + 1 + 4)) with
                | .inl x => .inl x
                | .inr (ts, l2) => .inr (.mk 2 0 ⟨#[]⟩ ts, l2)) := by show _ = _; rw [HR2.out, if_neg cn]
              have hN20 : N ≤ 1048576 := by omega
              clear y0 y1 y2 y3 hcell1 hcell hk8
              go_wp2_with fail
              go_loopw [1, 12] (fun t1 t12 wr => ∃ i j : Nat, i ≤ N ∧ t12 = .int .i64 i ∧ t1 = .int .i64 j ∧ j ≤ l.length ∧ Hid (∃ ts u, decL (decT D) i (l.drop (at0 + 1 + 4)) = .inr (ts, l.drop j) ∧ TW wr (w.heap.size + 2) u ts ∧ Qc wr (w.heap.size + 1) 2 0 ⟨#[]⟩ u ∧ Qc wr w.heap.size 0 0 ⟨#[]⟩ (.slice none 0 0) ∧ Below w.heap.size w wr ∧ w.heap.size + 2 ≤ wr.heap.size)) (fun _ t12 _ => N - (intOf t12).toNat)
              case atStart => exact ⟨0, at0 + 1 + 4, Nat.zero_le _, rfl, by go_num, by omega, ⟨[], _, rfl, TW_nil _ _, HQ2.out, HQ1.out, HB2.out, by omega⟩⟩
              case round =>
                obtain ⟨i, j, hi, rfl, rfl, hj, HV⟩ := hrel
                obtain ⟨ts, u, v1, v2, v3, v4, v5, v6⟩ := HV.out
                have hlen := decL_length _ _ _ _ _ v1
                subst hlen
                obtain ⟨aU, capU, rfl⟩ : ∃ aU capU, u = .slice aU ts.length capU := by
                  obtain ⟨xs, _, _, _, _, h1, _⟩ := v2
                  exact ownsRow_slice h1
                clear z0 z1 z2 z3 g0 g1 g2 g3
                have z0 := v3.c0
                have z1 := v3.c1
                have z2 := v3.c2
                have z3 := v3.c3
                have f3 := v3.free 3
                by_cases c : ts.length < N
                · have hcall := HHC.out D rfl _ l j wr (HBR.out.below v5 (Nat.le_refl _)) hl hj
                  rw [← HD2.out] at hcall
                  have hsn := decL_snoc (decT D) ts.length (l.drop (at0 + 1 + 4))
                  rw [v1] at hsn
                  simp only at hsn
                  have HG : Hid (TW wr (w.heap.size + 2) (.slice aU ts.length capU) ts ∧ Qc wr (w.heap.size + 1) 2 0 ⟨#[]⟩ (.slice aU ts.length capU) ∧ Qc wr w.heap.size 0 0 ⟨#[]⟩ (.slice none 0 0) ∧ Below w.heap.size w wr) := ⟨v2, v3, v4, v5⟩
                  have ci2 : (ts.length : Int) < (N : Int) := by omega
                  clear v1 v2 v3 v4 v5 HV
                  generalize hE : decT D (l.drop j) = E at hcall hsn
                  go_wp2_with fail
                  refine hcall.mono ?_
                  rintro e w5 ⟨v7, x7, y7, rfl, hb7, hm7⟩
                  clear hcall
                  have hb75 := hb7.size
                  cases E with
                  | inl z =>
                    obtain ⟨rfl, rfl, rfl⟩ := hm7
                    have hz := dec_err D _ z hE
                    have e1 : r = .inl z := by rw [HR2.out, decL_stop _ _ z (ts.length + 1) hsn N (by omega)]
                    obtain ⟨w6, hw6⟩ : ∃ w6, w6 = w5.alloc (.cells #[.int .i64 0, .int .u64 0, .string ⟨#[]⟩, .slice none 0 0] 26) := ⟨_, rfl⟩
                    have hb6 : Below wr.heap.size wr w6 := by rw [hw6]; exact hb7.alloc hb75 _
                    have HBB : Hid (Below w.heap.size w w6) := Below.then HG.out.2.2.2 hb6
                    have hrc6 : Qc w6 w.heap.size 0 0 ⟨#[]⟩ (.slice none 0 0) := HG.out.2.2.1.same (hb6.block _ (by omega))
                    have HRC6 : Hid (Qc w6 w.heap.size 0 0 ⟨#[]⟩ (.slice none 0 0)) := hrc6
                    have HE1 : Hid (r = .inl z) := e1
                    have y0 := hrc6.c0
                    have y1 := hrc6.c1
                    have y2 := hrc6.c2
                    have y3 := hrc6.c3
                    have g0 := hrc6.free 0
                    have g1 := hrc6.free 1
                    have g2 := hrc6.free 2
                    have g3 := hrc6.free 3
                    unfold cellV
                    clear hsn hb7 hE e1 hb6 hrc6
                    rw [hw6] at y0 y1 y2 y3 g0 g1 g2 g3
                    rcases hz with rfl | rfl | rfl
                    · have HP : Hid (∀ W : World, W = (((w6.setCell ⟨w.heap.size, 0, none⟩ (.int .i64 0)).setCell ⟨w.heap.size, 1, none⟩ (.int .u64 0)).setCell ⟨w.heap.size, 2, none⟩ (.string ⟨#[]⟩)).setCell ⟨w.heap.size, 3, none⟩ (.slice none 0 0) → (W.cell? ⟨w.heap.size, 0, none⟩ = some (.int .i64 0) ∧ W.cell? ⟨w.heap.size, 1, none⟩ = some (.int .u64 0) ∧ W.cell? ⟨w.heap.size, 2, none⟩ = some (.string ⟨#[]⟩) ∧ W.cell? ⟨w.heap.size, 3, none⟩ = some (.slice none 0 0)) ∧ RdP r l w (.returned (.tuple #[.agg #[.int .i64 0, .int .u64 0, .string ⟨#[]⟩, .slice none 0 0], .int .i64 0, .int .i64 (2 : Nat)])) W) := fun W hW => rd_err HE1.out HRC6.out.rc hW rfl HBB.out
                      go_wp2
                      rw [← hw6]
                      obtain ⟨⟨t0, t1, t2, t3⟩, hP⟩ := HP.out _ rfl
                      clear HP hw6 y0 y1 y2 y3 g0 g1 g2 g3
                      refine bodyPost_ret ?_ rfl hP
                      generalize (((w6.setCell ⟨w.heap.size, 0, none⟩ (.int .i64 0)).setCell ⟨w.heap.size, 1, none⟩ (.int .u64 0)).setCell ⟨w.heap.size, 2, none⟩ (.string ⟨#[]⟩)).setCell ⟨w.heap.size, 3, none⟩ (.slice none 0 0) = W at *
                      simp [results, Tryd.results58, go_sem, t0, t1, t2, t3]
                    · have HP : Hid (∀ W : World, W = (((w6.setCell ⟨w.heap.size, 0, none⟩ (.int .i64 0)).setCell ⟨w.heap.size, 1, none⟩ (.int .u64 0)).setCell ⟨w.heap.size, 2, none⟩ (.string ⟨#[]⟩)).setCell ⟨w.heap.size, 3, none⟩ (.slice none 0 0) → (W.cell? ⟨w.heap.size, 0, none⟩ = some (.int .i64 0) ∧ W.cell? ⟨w.heap.size, 1, none⟩ = some (.int .u64 0) ∧ W.cell? ⟨w.heap.size, 2, none⟩ = some (.string ⟨#[]⟩) ∧ W.cell? ⟨w.heap.size, 3, none⟩ = some (.slice none 0 0)) ∧ RdP r l w (.returned (.tuple #[.agg #[.int .i64 0, .int .u64 0, .string ⟨#[]⟩, .slice none 0 0], .int .i64 0, .int .i64 (3 : Nat)])) W) := fun W hW => rd_err HE1.out HRC6.out.rc hW rfl HBB.out
                      go_wp2
                      rw [← hw6]
                      obtain ⟨⟨t0, t1, t2, t3⟩, hP⟩ := HP.out _ rfl
                      clear HP hw6 y0 y1 y2 y3 g0 g1 g2 g3
                      refine bodyPost_ret ?_ rfl hP
                      generalize (((w6.setCell ⟨w.heap.size, 0, none⟩ (.int .i64 0)).setCell ⟨w.heap.size, 1, none⟩ (.int .u64 0)).setCell ⟨w.heap.size, 2, none⟩ (.string ⟨#[]⟩)).setCell ⟨w.heap.size, 3, none⟩ (.slice none 0 0) = W at *
                      simp [results, Tryd.results58, go_sem, t0, t1, t2, t3]
                    · have HP : Hid (∀ W : World, W = (((w6.setCell ⟨w.heap.size, 0, none⟩ (.int .i64 0)).setCell ⟨w.heap.size, 1, none⟩ (.int .u64 0)).setCell ⟨w.heap.size, 2, none⟩ (.string ⟨#[]⟩)).setCell ⟨w.heap.size, 3, none⟩ (.slice none 0 0) → (W.cell? ⟨w.heap.size, 0, none⟩ = some (.int .i64 0) ∧ W.cell? ⟨w.heap.size, 1, none⟩ = some (.int .u64 0) ∧ W.cell? ⟨w.heap.size, 2, none⟩ = some (.string ⟨#[]⟩) ∧ W.cell? ⟨w.heap.size, 3, none⟩ = some (.slice none 0 0)) ∧ RdP r l w (.returned (.tuple #[.agg #[.int .i64 0, .int .u64 0, .string ⟨#[]⟩, .slice none 0 0], .int .i64 0, .int .i64 (4 : Nat)])) W) := fun W hW => rd_err HE1.out HRC6.out.rc hW rfl HBB.out
                      go_wp2
                      rw [← hw6]
                      obtain ⟨⟨t0, t1, t2, t3⟩, hP⟩ := HP.out _ rfl
                      clear HP hw6 y0 y1 y2 y3 g0 g1 g2 g3
                      refine bodyPost_ret ?_ rfl hP
                      generalize (((w6.setCell ⟨w.heap.size, 0, none⟩ (.int .i64 0)).setCell ⟨w.heap.size, 1, none⟩ (.int .u64 0)).setCell ⟨w.heap.size, 2, none⟩ (.string ⟨#[]⟩)).setCell ⟨w.heap.size, 3, none⟩ (.slice none 0 0) = W at *
                      simp [results, Tryd.results58, go_sem, t0, t1, t2, t3]
                  | inr p =>
                    obtain ⟨t, r7⟩ := p
                    obtain ⟨q7, rfl, j7, rfl, hj7, e7⟩ := hm7
                    simp only at q7 e7 hsn
                    obtain ⟨k7, n7, s7, a7, m7, cap7, rfl⟩ := q7.form
                    obtain ⟨i0, hi0, hz0, hz1, hz2⟩ := info_parts info25b
                    obtain ⟨w6, hw6⟩ : ∃ w6, w6 = w5.alloc (.cells #[.int .i64 k7, .int .u64 n7, .string s7, .slice a7 m7 cap7] 26) := ⟨_, rfl⟩
                    have hs6 : w6.heap.size = w5.heap.size + 1 := by rw [hw6]; simp
                    have hb56 : Below w5.heap.size w5 w6 := by rw [hw6]; exact (Below.refl _ _).alloc (Nat.le_refl _) _
                    have hb6 : Below wr.heap.size wr w6 := hb7.trans (hb56.mono hb75)
                    have q6 : CS w6 (fun k => wr.heap.size ≤ k) t (cellV k7 n7 s7 (.slice a7 m7 cap7)) := (q7.real.kept (fun k hk => hb56.block k hk.2)).widen (fun k hk => hk.1)
                    obtain ⟨xs, ho1, ho2, hnext⟩ := HG.out.1.snoc (B := w.heap.size + 2) (w1 := w6) v6 hb6 q6 (.cells #[.int .i64 k7, .int .u64 n7, .string s7, .slice a7 m7 cap7] 26)
                    have HNX : Hid (∀ (w3 : World) (g cap : Nat), _) := hnext
                    have HB6 : Hid (Below wr.heap.size wr w6) := hb6
                    have hq6 : Qc w6 (w.heap.size + 1) 2 0 ⟨#[]⟩ (.slice aU ts.length capU) := HG.out.2.1.same (hb6.block _ (by omega))
                    have HQ6 : Hid (Qc w6 (w.heap.size + 1) 2 0 ⟨#[]⟩ (.slice aU ts.length capU)) := hq6
                    have z3e := hq6.c3
                    rw [hw6] at z3e
                    have hsn2 : decL (decT D) (ts.length + 1) (l.drop (at0 + 1 + 4)) = .inr (ts ++ [t], l.drop j7) := by rw [hsn, e7]
                    have HSN : Hid (decL (decT D) (ts.length + 1) (l.drop (at0 + 1 + 4)) = .inr (ts ++ [t], l.drop j7)) := hsn2
                    have hti : ts.length ≤ 1048576 := by omega
                    have hs56 : w.heap.size + 2 ≤ w6.heap.size + 1 := by omega
                    unfold cellV
                    clear hnext ho1 q6 q7 hb6 hb56 hb7 hq6 hsn hsn2 e7 hE z0 z1 z2 z3 f3
                    go_wp2_with (at_builtin; rw [← hw6]; refine wpList_append_lies _ rfl _ _ 24 rfl (w.heap.size + 2) 26 i0 _ 4 56 Tryd.underlying24 hi0 hz0 hz1 hz2 rfl (by decide) _ ts.length xs rfl ho2 ⟨w6.heap.size, 0, none⟩ 1 1 (quad k7 n7 s7 (.slice a7 m7 cap7)) (by rw [hs6]; rfl) rfl (cells_quad _ _ _ _ _ _) (by intro u hu; simp [quad] at hu; rcases hu with rfl | rfl | rfl | rfl <;> rfl) (by decide) (by unfold maxLen; omega) (by omega) (by simp; omega) _ rfl ?_)
                    intro g3 cap3 w8 hown3 hgrow3 hat3 _
                    rw [← hw6] at hgrow3
                    have hs8 := hgrow3.size
                    have hs6b : (w6.alloc (.cells #[.int .i64 k7, .int .u64 n7, .string s7, .slice a7 m7 cap7] 26)).heap.size = w6.heap.size + 1 := by simp
                    have hfar : ∀ k, k < w.heap.size + 2 → w8.heap[k]? = w6.heap[k]? := by
                      intro k hk
                      rw [hgrow3.block k (by omega) (fun e => by have := (ho2.lt k e.symm).1; omega)]
                      exact Below.heap_alloc _ _ _ (by have := HB6.out.size; omega)
                    have hq8 : Qc w8 (w.heap.size + 1) 2 0 ⟨#[]⟩ (.slice aU ts.length capU) := HQ6.out.same (hfar _ (by omega))
                    have hr8 : Qc w8 w.heap.size 0 0 ⟨#[]⟩ (.slice none 0 0) := (HG.out.2.2.1.same (HB6.out.block _ (by omega))).same (hfar _ (by omega))
                    have hT8 := HNX.out w8 g3 cap3 hown3 hgrow3 (by rw [hs6b, hs6]; simpa using hat3)
                    have hb8 : Below w.heap.size w w8 := by
                      have k1 : Below w.heap.size w w6 := Below.then HG.out.2.2.2 HB6.out
                      exact (k1.alloc k1.size _).grown hgrow3 (by omega) (fun k hk => by have := (ho2.lt k hk).1; omega)
                    have HV8 : Hid (∃ ts' u, decL (decT D) (ts.length + 1) (l.drop (at0 + 1 + 4)) = .inr (ts', l.drop j7) ∧ TW (w8.setCell ⟨w.heap.size + 1, 3, none⟩ (.slice (some ⟨g3, 0, none⟩) (ts.length + 1) cap3)) (w.heap.size + 2) u ts' ∧ Qc (w8.setCell ⟨w.heap.size + 1, 3, none⟩ (.slice (some ⟨g3, 0, none⟩) (ts.length + 1) cap3)) (w.heap.size + 1) 2 0 ⟨#[]⟩ u ∧ Qc (w8.setCell ⟨w.heap.size + 1, 3, none⟩ (.slice (some ⟨g3, 0, none⟩) (ts.length + 1) cap3)) w.heap.size 0 0 ⟨#[]⟩ (.slice none 0 0) ∧ Below w.heap.size w (w8.setCell ⟨w.heap.size + 1, 3, none⟩ (.slice (some ⟨g3, 0, none⟩) (ts.length + 1) cap3)) ∧ w.heap.size + 2 ≤ (w8.setCell ⟨w.heap.size + 1, 3, none⟩ (.slice (some ⟨g3, 0, none⟩) (ts.length + 1) cap3)).heap.size) := by
                      refine ⟨ts ++ [t], _, HSN.out, hT8.set (by omega), ?_, hr8.same (heap_setCell_other _ _ _ _ (by simp)), hb8.setCell (by simp) _, by rw [World.size_setCell]; omega⟩
                      exact heap_setCell_same _ _ 3 _ _ _ hq8
                    have z3 := hq8.c3
                    have f3 := hq8.free 3
                    clear hown3 hgrow3 hat3 ho2 hq8 hr8 hT8 hb8 hfar hw6 z3e
                    go_wp2
                    go_roundw
                    case rel => exact ⟨ts.length + 1, j7, by omega, by go_num, rfl, hj7, HV8⟩
                    case measure => simp [intOf]; omega
                · have e : ts.length = N := by omega
                  subst e
                  have ci2 : ¬ (ts.length : Int) < (ts.length : Int) := by omega
                  have g0 := v4.free 0
                  have g1 := v4.free 1
                  have g2 := v4.free 2
                  have g3 := v4.free 3
                  have y0 := v4.c0
                  have y1 := v4.c1
                  have y2 := v4.c2
                  have y3 := v4.c3
                  have HP : Hid (∀ W : World, W = (((wr.setCell ⟨w.heap.size, 0, none⟩ (.int .i64 2)).setCell ⟨w.heap.size, 1, none⟩ (.int .u64 0)).setCell ⟨w.heap.size, 2, none⟩ (.string ⟨#[]⟩)).setCell ⟨w.heap.size, 3, none⟩ (.slice aU ts.length capU) → (W.cell? ⟨w.heap.size, 0, none⟩ = some (.int .i64 2) ∧ W.cell? ⟨w.heap.size, 1, none⟩ = some (.int .u64 0) ∧ W.cell? ⟨w.heap.size, 2, none⟩ = some (.string ⟨#[]⟩) ∧ W.cell? ⟨w.heap.size, 3, none⟩ = some (.slice aU ts.length capU)) ∧ RdP r l w (.returned (.tuple #[.agg #[.int .i64 2, .int .u64 0, .string ⟨#[]⟩, .slice aU ts.length capU], .int .i64 j, .int .i64 0])) W) := by
                    intro W hW
                    have e1 : r = .inr (.mk 2 0 ⟨#[]⟩ ts, l.drop j) := by rw [HR2.out, v1]
                    rw [e1]
                    exact rd_end (n := 0) v4.rc hW rfl v5 ((v2.cs rfl 2 0 ⟨#[]⟩ (by decide) (by decide) (by decide)).widen (fun k hk => by omega)) hj rfl
                  clear v1 v2 v3 v4 v5 HV
                  go_wp2
                  obtain ⟨⟨t0, t1, t2, t3⟩, hP⟩ := HP.out _ rfl
                  clear HP y0 y1 y2 y3 g0 g1 g2 g3
                  refine bodyPost_ret ?_ rfl hP
                  generalize (((wr.setCell ⟨w.heap.size, 0, none⟩ (.int .i64 2)).setCell ⟨w.heap.size, 1, none⟩ (.int .u64 0)).setCell ⟨w.heap.size, 2, none⟩ (.string ⟨#[]⟩)).setCell ⟨w.heap.size, 3, none⟩ (.slice aU ts.length capU) = W at *
                  simp [results, Tryd.results58, go_sem, t0, t1, t2, t3]

theorem read_any : ∀ (D : Nat), D ≤ 64 → ∀ (v : Value) (l : List Nat) (at0 : Nat) (w : World), BR w v l → l.length ≤ 1048576 → at0 ≤ l.length →
    Calls Tryd.prog 58 #[v, .int .i64 at0, .int .i64 (64 - (D : Int))] w (RdP (decT D (l.drop at0)) l w)
  | 0, h => read_of 0 h (fun D' e => by omega)
  | D + 1, h => read_of (D + 1) h (fun D' e => by
      obtain rfl : D' = D := by omega
      exact read_any D' (by omega))

end Go.Proofs.YtjngknnkffbnmaaDoor
