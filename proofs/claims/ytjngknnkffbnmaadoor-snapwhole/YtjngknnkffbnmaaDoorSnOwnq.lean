/-
  Layer 19: the laws' own, walked: a snapshot copied.
-/
import Derived.Test.YtjngknnkffbnmaaDoorSnRegq
import Derived.Test.YtjngknnkffbnmaaDoorSnLand5q
import Derived.Test.YtjngknnkffbnmaaDoorSnRef10q
namespace Go.Proofs.YtjngknnkffbnmaaDoor
set_option maxRecDepth 100000
open Go.RowKit Crc Sn

namespace Sn
theorem made_int {w : World} {B : Nat} (hB : B ≤ w.heap.size) : NO (w.alloc (.cells #[] 3)) B (.slice (some ⟨w.heap.size, 0, none⟩) 0 0) [] := by
  have := World.ownsRow_made (e := 3) (size := 1) (base := B) w #[] 0 hB (by decide) rfl
  show World.ownsRow _ _ _ _ _ _ _
  simpa using this
def Own6 (w : World) (B : Nat) (v : Value) (l : List Int) : Prop := (∃ a c, v = .slice a l.length c) ∧ NO w B v l
theorem Own6.below {w w' : World} {B : Nat} {v : Value} {l : List Int} (h : Own6 w B v l) (hb : Below w.heap.size w w') : Own6 w' B v l := ⟨h.1, h.2.far hb (Nat.le_refl _)⟩
theorem Own6.other {w w' : World} {B : Nat} {v : Value} {l : List Int} (h : Own6 w B v l) (ho : ∀ k, B ≤ k → w'.heap[k]? = w.heap[k]?) : Own6 w' B v l := ⟨h.1, h.2.other ho⟩
/-- A cell of one's own. -/
def Tq (w : World) (B : Nat) (t : Tr) (v : Value) : Prop := ∃ (k : Int) (n : Nat) (s : ByteArray) (a : Option Addr) (m c : Nat), v = .agg #[.int .i64 k, .int .u64 n, .string s, .slice a m c] ∧ CS w (fun k => B ≤ k) t v
theorem Tq.below {w w' : World} {B : Nat} {t : Tr} {v : Value} (h : Tq w B t v) (hb : Below w.heap.size w w') : Tq w' B t v := by
  obtain ⟨k, n, s, a, m, c, e, hc⟩ := h
  exact ⟨k, n, s, a, m, c, e, csLater hc hb⟩
theorem Tq.other {w w' : World} {B : Nat} {t : Tr} {v : Value} (h : Tq w B t v) (ho : ∀ k, B ≤ k → w'.heap[k]? = w.heap[k]?) : Tq w' B t v := by
  obtain ⟨k, n, s, a, m, c, e, hc⟩ := h
  exact ⟨k, n, s, a, m, c, e, hc.kept ho⟩
theorem Tq.of {w : World} {B B' : Nat} {t : Tr} {k : Int} {n : Nat} {s : ByteArray} {a : Option Addr} {m c : Nat} (h : CS w (fun k => B' ≤ k) t (.agg #[.int .i64 k, .int .u64 n, .string s, .slice a m c])) (hB : B ≤ B') : Tq w B t (.agg #[.int .i64 k, .int .u64 n, .string s, .slice a m c]) :=
  ⟨k, n, s, a, m, c, rfl, h.widen (fun _ hk => Nat.le_trans hB hk)⟩
theorem Tq.at {w : World} {B : Nat} {t : Tr} {k : Int} {n : Nat} {s : ByteArray} {u : Value} (h : Tq w B t (.agg #[.int .i64 k, .int .u64 n, .string s, u])) : CS w (fun k => B ≤ k) t (cellV k n s u) := by
  obtain ⟨_, _, _, _, _, _, _, hc⟩ := h
  exact hc
theorem set4_oth {w : World} {b i j k l q : Nat} (h : q ≠ b) (v0 v1 v2 v3 : Value) :
    ((((w.setCell ⟨b, i, none⟩ v0).setCell ⟨b, j, none⟩ v1).setCell ⟨b, k, none⟩ v2).setCell ⟨b, l, none⟩ v3).heap[q]? = w.heap[q]? := by
  rw [heap_setCell_other _ _ _ _ (by simpa using h), heap_setCell_other _ _ _ _ (by simpa using h), heap_setCell_other _ _ _ _ (by simpa using h), heap_setCell_other _ _ _ _ (by simpa using h)]
theorem set1_at2 {w : World} {b : Nat} {T : TypeId} {x0 x1 x2 x3 x4 x5 x6 x7 x8 x9 x10 : Value} (h : w.heap[b]? = some (.cells #[x0, x1, x2, x3, x4, x5, x6, x7, x8, x9, x10] T (0, 0))) (v : Value) :
    (w.setCell ⟨b, 2, none⟩ v).heap[b]? = some (.cells #[x0, x1, v, x3, x4, x5, x6, x7, x8, x9, x10] T (0, 0)) := heap_setCell_same _ _ 2 _ _ v h
theorem set4_at3 {w : World} {b : Nat} {T : TypeId} {x0 x1 x2 x3 x4 x5 x6 x7 x8 x9 x10 : Value} (h : w.heap[b]? = some (.cells #[x0, x1, x2, x3, x4, x5, x6, x7, x8, x9, x10] T (0, 0))) (v0 v1 v2 v3 : Value) :
    ((((w.setCell ⟨b, 3, none⟩ v0).setCell ⟨b, 4, none⟩ v1).setCell ⟨b, 5, none⟩ v2).setCell ⟨b, 6, none⟩ v3).heap[b]? = some (.cells #[x0, x1, x2, v0, v1, v2, v3, x7, x8, x9, x10] T (0, 0)) := by
  have z1 : (w.setCell ⟨b, 3, none⟩ v0).heap[b]? = some (.cells #[x0, x1, x2, v0, x4, x5, x6, x7, x8, x9, x10] T (0, 0)) := heap_setCell_same _ _ 3 _ _ v0 h
  have z2 : ((w.setCell ⟨b, 3, none⟩ v0).setCell ⟨b, 4, none⟩ v1).heap[b]? = some (.cells #[x0, x1, x2, v0, v1, x5, x6, x7, x8, x9, x10] T (0, 0)) := heap_setCell_same _ _ 4 _ _ v1 z1
  have z3 : (((w.setCell ⟨b, 3, none⟩ v0).setCell ⟨b, 4, none⟩ v1).setCell ⟨b, 5, none⟩ v2).heap[b]? = some (.cells #[x0, x1, x2, v0, v1, v2, x6, x7, x8, x9, x10] T (0, 0)) := heap_setCell_same _ _ 5 _ _ v2 z2
  exact heap_setCell_same _ _ 6 _ _ v3 z3
theorem set4_at7 {w : World} {b : Nat} {T : TypeId} {x0 x1 x2 x3 x4 x5 x6 x7 x8 x9 x10 : Value} (h : w.heap[b]? = some (.cells #[x0, x1, x2, x3, x4, x5, x6, x7, x8, x9, x10] T (0, 0))) (v0 v1 v2 v3 : Value) :
    ((((w.setCell ⟨b, 7, none⟩ v0).setCell ⟨b, 8, none⟩ v1).setCell ⟨b, 9, none⟩ v2).setCell ⟨b, 10, none⟩ v3).heap[b]? = some (.cells #[x0, x1, x2, x3, x4, x5, x6, v0, v1, v2, v3] T (0, 0)) := by
  have z1 : (w.setCell ⟨b, 7, none⟩ v0).heap[b]? = some (.cells #[x0, x1, x2, x3, x4, x5, x6, v0, x8, x9, x10] T (0, 0)) := heap_setCell_same _ _ 7 _ _ v0 h
  have z2 : ((w.setCell ⟨b, 7, none⟩ v0).setCell ⟨b, 8, none⟩ v1).heap[b]? = some (.cells #[x0, x1, x2, x3, x4, x5, x6, v0, v1, x9, x10] T (0, 0)) := heap_setCell_same _ _ 8 _ _ v1 z1
  have z3 : (((w.setCell ⟨b, 7, none⟩ v0).setCell ⟨b, 8, none⟩ v1).setCell ⟨b, 9, none⟩ v2).heap[b]? = some (.cells #[x0, x1, x2, x3, x4, x5, x6, v0, v1, v2, x10] T (0, 0)) := heap_setCell_same _ _ 9 _ _ v2 z2
  exact heap_setCell_same _ _ 10 _ _ v3 z3
/-- A snapshot of one's own. -/
def OwR (w : World) (z : Sp) (e : Ending) (w' : World) : Prop := ∃ (a : Option Addr) (c : Nat) (k1 k2 : Int) (n1 n2 : Nat) (s1 s2 : ByteArray) (u1 u2 : Value), e = .returned (.agg #[.int .u64 z.ix, .int .u64 z.tm, .slice a z.ms.length c, .int .i64 k1, .int .u64 n1, .string s1, u1, .int .i64 k2, .int .u64 n2, .string s2, u2]) ∧ NR w' (.slice a z.ms.length c) z.ms ∧ CR w' z.ss (cellV k1 n1 s1 u1) ∧ CR w' z.st (cellV k2 n2 s2 u2) ∧ Below w.heap.size w w'
end Sn

set_option maxHeartbeats 8000000 in
theorem lawOwn19_any (z : Sp) (mv : Value) (k1 k2 : Int) (n1 n2 : Nat) (s1 s2 : ByteArray) (u1 u2 : Value) (w : World) (hm : NR w mv z.ms) (hml : z.ms.length ≤ 17592186044416) (h1 : CR w z.ss (cellV k1 n1 s1 u1)) (h2 : CR w z.st (cellV k2 n2 s2 u2)) (hc1 : z.ss.cnt ≤ 1000000) (hc2 : z.st.cnt ≤ 1000000) :
    Calls Tryd.prog 10 #[.agg #[.int .u64 z.ix, .int .u64 z.tm, mv, .int .i64 k1, .int .u64 n1, .string s1, u1, .int .i64 k2, .int .u64 n2, .string s2, u2]] w (OwR w z) := by
  obtain ⟨i0, hi0, hz0, hz1, hz2⟩ := info_parts infoInt
  obtain ⟨a, cap, rfl, -, -, -, -⟩ := hm.form
  obtain ⟨-, -, -, a1, c1, rfl⟩ := crTop h1
  obtain ⟨-, -, -, a2, c2, rfl⟩ := crTop h2
  have HOWc : ∀ (t : Tr) (v : Value), t.cnt ≤ 1000000 → CR w t v → Hid (∀ w', Below w.heap.size w w' → Calls Tryd.prog 21 #[v] w' fun e w'' => ∃ (k : Int) (n : Nat) (s : ByteArray) (a : Option Addr) (m c : Nat), e = .returned (.agg #[.int .i64 k, .int .u64 n, .string s, .slice a m c]) ∧ CS w'' (fun k => w'.heap.size ≤ k) t (.agg #[.int .i64 k, .int .u64 n, .string s, .slice a m c]) ∧ Below w'.heap.size w' w'') := by
    intro t v hc hr w' hb
    refine (own_cell (t.dep + 1) t v w' (Nat.lt_succ_self _) hc (hr.kept hb (Nat.le_refl _))).mono ?_
    rintro e w'' ⟨v', rfl, hcs, hb2⟩
    obtain ⟨k, n, s, a, m, c, rfl⟩ := hcs.form
    exact ⟨k, n, s, a, m, c, rfl, hcs, hb2⟩
  have HOW1 := HOWc _ _ hc1 h1
  have HOW2 := HOWc _ _ hc2 h2
  have HSR : Hid (∀ w', Below w.heap.size w w' → Src w' 1 (.slice a z.ms.length cap) z.ms.length (z.ms.map intV)) := fun w' hb => (hm.kept hb (Nat.le_refl _)).src
  have HNM : Hid (z.ms.length = z.ms.length ∧ z.ms.length ≤ 17592186044416) := ⟨rfl, hml⟩
  clear hm h1 h2 hc1 hc2 HOWc hml
  obtain ⟨ix, tm, ms, t1, t2⟩ := z
  simp only at HOW1 HOW2 HSR HNM ⊢
  obtain ⟨nm, hnm⟩ : ∃ nm, nm = ms.length := ⟨_, rfl⟩
  rw [← hnm] at HSR
  have HNM : Hid (nm = ms.length ∧ nm ≤ 17592186044416) := ⟨hnm, by rw [hnm]; exact HNM.out.2⟩
  have HLR : ∀ l : Nat, l = ms.length → Hid True := fun _ _ => trivial
  clear HLR
  generalize t1.l.length = m1 at *
  generalize t2.l.length = m2 at *
  unfold cellV at HOW1 HOW2
  rw [← hnm]
  clear hnm
  obtain ⟨w1, hw1⟩ : ∃ w1, w1 = (w.alloc (.cells #[.int .u64 ix, .int .u64 tm, .slice a nm cap, .int .i64 k1, .int .u64 n1, .string s1, .slice a1 m1 c1, .int .i64 k2, .int .u64 n2, .string s2, .slice a2 m2 c2] 28)).alloc (.cells #[.int .u64 0, .int .u64 0, .slice none 0 0, .int .i64 0, .int .u64 0, .string ⟨#[]⟩, .slice none 0 0, .int .i64 0, .int .u64 0, .string ⟨#[]⟩, .slice none 0 0] 28) := ⟨_, rfl⟩
  have HS1 : Hid (w.heap.size ≤ w1.heap.size) := by show _ ≤ _; rw [hw1]; simp; omega
  have HS2 : Hid (w.heap.size + 1 < w1.heap.size) := by show _ < _; rw [hw1]; simp
  have HB1 : Hid (Below w.heap.size w w1.drew) := by show Below _ _ _; rw [hw1]; exact (((Below.refl _ _).alloc (Nat.le_refl _) _).alloc (by simp) _).drew
  have HA1 : Hid (w1.heap[w.heap.size]? = some (.cells #[.int .u64 ix, .int .u64 tm, .slice a nm cap, .int .i64 k1, .int .u64 n1, .string s1, .slice a1 m1 c1, .int .i64 k2, .int .u64 n2, .string s2, .slice a2 m2 c2] 28 (0, 0))) := by
    show _ = _
    rw [hw1, Below.heap_alloc _ _ _ (by simp)]
    exact heap_alloc_new _ _
  have HA1z : Hid (w1.drew.heap[w.heap.size + 1]? = some (.cells #[.int .u64 0, .int .u64 0, .slice none 0 0, .int .i64 0, .int .u64 0, .string ⟨#[]⟩, .slice none 0 0, .int .i64 0, .int .u64 0, .string ⟨#[]⟩, .slice none 0 0] 28 (0, 0))) := by
    show w1.heap[w.heap.size + 1]? = _
    rw [hw1]
    exact heap_alloc_at _ _ _ (by simp)
  have HY : Hid (∀ wq, Below w1.heap.size w1 wq → wq.heap[w.heap.size]? = some (.cells #[.int .u64 ix, .int .u64 tm, .slice a nm cap, .int .i64 k1, .int .u64 n1, .string s1, .slice a1 m1 c1, .int .i64 k2, .int .u64 n2, .string s2, .slice a2 m2 c2] 28 (0, 0)) ∧ True) := fun wq hq => ⟨(hq.block _ (by have := HS2.out; omega)).trans HA1.out, trivial⟩
  go_enter Tryd.func10, Tryd.ntmps10
  go_upto_region 1 with fail
  rw [← hw1]
  clear hw1
  go_cut [3] (fun _ wc => Hid (∃ (a6 : Option Addr) (c6 : Nat) (K9 : Int) (N9 : Nat) (S9 : ByteArray) (A9 : Option Addr) (Y9 C9 : Nat) (K12 : Int) (N12 : Nat) (S12 : ByteArray) (A12 : Option Addr) (Y12 C12 : Nat), wc.heap[w.heap.size]? = some (.cells #[.int .u64 ix, .int .u64 tm, .slice a6 ms.length c6, .int .i64 K9, .int .u64 N9, .string S9, .slice A9 Y9 C9, .int .i64 K12, .int .u64 N12, .string S12, .slice A12 Y12 C12] 28 (0, 0)) ∧ NO wc w1.heap.size (.slice a6 ms.length c6) ms ∧ CS wc (fun k => w1.heap.size ≤ k) t1 (cellV K9 N9 S9 (.slice A9 Y9 C9)) ∧ CS wc (fun k => w1.heap.size ≤ k) t2 (cellV K12 N12 S12 (.slice A12 Y12 C12)) ∧ Below w.heap.size w wc ∧ wc.heap[w.heap.size + 1]? = some (.cells #[.int .u64 0, .int .u64 0, .slice none 0 0, .int .i64 0, .int .u64 0, .string ⟨#[]⟩, .slice none 0 0, .int .i64 0, .int .u64 0, .string ⟨#[]⟩, .slice none 0 0] 28 (0, 0))))
  case first =>
    refine wp_region_inv2 (by kernel_rfl) [3, 4, 5, 6, 7, 8, 9, 10, 11, 12, 13, 14, 15] (fun L vs w' => ∃ (v3 : Value) (v4 : Value) (v5 : Value) (v6 : Value) (v7 : Value) (v8 : Value) (v9 : Value) (v10 : Value) (v11 : Value) (v12 : Value) (v13 : Value) (v14 : Value) (v15 : Value), vs = [v3, v4, v5, v6, v7, v8, v9, v10, v11, v12, v13, v14, v15] ∧ (L 1 = true → v4 = (.pointer (some ⟨w.heap.size, 2, none⟩))) ∧ (L 2 = true → v5 = (.slice a nm cap)) ∧ (L 4 = true → v7 = (.pointer (some ⟨w.heap.size, 3, none⟩))) ∧ (L 5 = true → v8 = (.agg #[.int .i64 k1, .int .u64 n1, .string s1, .slice a1 m1 c1])) ∧ (L 7 = true → v10 = (.pointer (some ⟨w.heap.size, 7, none⟩))) ∧ (L 8 = true → v11 = (.agg #[.int .i64 k2, .int .u64 n2, .string s2, .slice a2 m2 c2])) ∧ (L 10 = true → v13 = (.pointer (some ⟨w.heap.size, 2, none⟩))) ∧ (L 12 = true → v14 = (.pointer (some ⟨w.heap.size, 3, none⟩))) ∧ (L 14 = true → v15 = (.pointer (some ⟨w.heap.size, 7, none⟩))) ∧ (L 2 = true → L 1 = true) ∧ (L 3 = true → L 0 = true ∧ L 2 = true) ∧ (L 5 = true → L 4 = true) ∧ (L 6 = true → L 3 = true ∧ L 5 = true) ∧ (L 8 = true → L 7 = true) ∧ (L 9 = true → L 6 = true ∧ L 8 = true) ∧ (L 11 = true → L 3 = true ∧ L 9 = true ∧ L 10 = true) ∧ (L 13 = true → L 6 = true ∧ L 11 = true ∧ L 12 = true) ∧ (L 15 = true → L 9 = true ∧ L 13 = true ∧ L 14 = true) ∧ Hid (Below w.heap.size w w') ∧ Hid (L 11 = false → Below w1.heap.size w1 w') ∧ Hid (w'.heap[w.heap.size + 1]? = some (.cells #[.int .u64 0, .int .u64 0, .slice none 0 0, .int .i64 0, .int .u64 0, .string ⟨#[]⟩, .slice none 0 0, .int .i64 0, .int .u64 0, .string ⟨#[]⟩, .slice none 0 0] 28 (0, 0))) ∧ Hid (L 0 = true → L 3 = false → NO w' w1.heap.size v3 []) ∧ Hid (L 3 = true → Own6 w' w1.heap.size v6 ms) ∧ Hid (L 6 = true → Tq w' w1.heap.size t1 v9) ∧ Hid (L 9 = true → Tq w' w1.heap.size t2 v12) ∧ Hid (L 11 = true → L 13 = false → w'.heap[w.heap.size]? = some (.cells #[.int .u64 ix, .int .u64 tm, v6, .int .i64 k1, .int .u64 n1, .string s1, .slice a1 m1 c1, .int .i64 k2, .int .u64 n2, .string s2, .slice a2 m2 c2] 28 (0, 0))) ∧ Hid (L 13 = true → L 15 = false → ∃ (K9 : Int) (N9 : Nat) (S9 : ByteArray) (A9 : Option Addr) (Y9 C9 : Nat), v9 = .agg #[.int .i64 K9, .int .u64 N9, .string S9, .slice A9 Y9 C9] ∧ w'.heap[w.heap.size]? = some (.cells #[.int .u64 ix, .int .u64 tm, v6, .int .i64 K9, .int .u64 N9, .string S9, .slice A9 Y9 C9, .int .i64 k2, .int .u64 n2, .string s2, .slice a2 m2 c2] 28 (0, 0))) ∧ Hid (L 15 = true → ∃ (K9 : Int) (N9 : Nat) (S9 : ByteArray) (A9 : Option Addr) (Y9 C9 : Nat) (K12 : Int) (N12 : Nat) (S12 : ByteArray) (A12 : Option Addr) (Y12 C12 : Nat), v9 = .agg #[.int .i64 K9, .int .u64 N9, .string S9, .slice A9 Y9 C9] ∧ v12 = .agg #[.int .i64 K12, .int .u64 N12, .string S12, .slice A12 Y12 C12] ∧ w'.heap[w.heap.size]? = some (.cells #[.int .u64 ix, .int .u64 tm, v6, .int .i64 K9, .int .u64 N9, .string S9, .slice A9 Y9 C9, .int .i64 K12, .int .u64 N12, .string S12, .slice A12 Y12 C12] 28 (0, 0)))) (by kernel_rfl) (by decide) (by simp) ?_ ⟨?_, ?_, ?_, ?_, ?_, ?_, ?_, ?_, ?_, ?_, ?_, ?_, ?_, ?_, ?_, ?_, trivial⟩ ?_
    · exact ⟨_, _, _, _, _, _, _, _, _, _, _, _, _, rfl, fun q => by (cases q), fun q => by (cases q), fun q => by (cases q), fun q => by (cases q), fun q => by (cases q), fun q => by (cases q), fun q => by (cases q), fun q => by (cases q), fun q => by (cases q), fun q => by (cases q), fun q => by (cases q), fun q => by (cases q), fun q => by (cases q), fun q => by (cases q), fun q => by (cases q), fun q => by (cases q), fun q => by (cases q), fun q => by (cases q), HB1, (fun _ => ((Below.refl _ _).drew)), HA1z, (fun a0 a1 => absurd (show false = true from a0) (by decide)), (fun a0 => absurd (show false = true from a0) (by decide)), (fun a0 => absurd (show false = true from a0) (by decide)), (fun a0 => absurd (show false = true from a0) (by decide)), (fun a0 a1 => absurd (show false = true from a0) (by decide)), (fun a0 a1 => absurd (show false = true from a0) (by decide)), (fun a0 => absurd (show false = true from a0) (by decide))⟩
    · rintro A L vs w' F G ⟨v3, v4, v5, v6, v7, v8, v9, v10, v11, v12, v13, v14, v15, rfl, d1, d2, d4, d5, d7, d8, d10, d12, d14, m2, m3, m5, m6, m8, m9, m11, m13, m15, HC, HB, ZR, R3, N6, T9, T12, D11, D13, D15⟩ hL hdep K' hK hK0
      have n3 : L 3 = false := not_yet hL (fun q => (m3 q).1)
      have n6 : L 6 = false := not_yet hL (fun q => (m3 ((m6 q).1)).1)
      have n9 : L 9 = false := not_yet hL (fun q => (m3 ((m6 ((m9 q).1)).1)).1)
      have n11 : L 11 = false := not_yet hL (fun q => (m3 ((m11 q).1)).1)
      have n13 : L 13 = false := not_yet hL (fun q => (m3 ((m6 ((m13 q).1)).1)).1)
      have n15 : L 15 = false := not_yet hL (fun q => (m3 ((m6 ((m9 ((m15 q).1)).1)).1)).1)
      have hbz := (HB.out n11).size
      have hb : Below w'.heap.size w' (w'.alloc (.cells #[] 3)) := (Below.refl _ _).alloc (Nat.le_refl _) _
      have HR3 := hide_p (made_int hbz)
      clear F G hbz
      go_simp
      refine hK 0 3 _ _ rfl ⟨_, _, _, _, _, _, _, _, _, _, _, _, _, rfl, d1, d2, d4, d5, d7, d8, d10, d12, d14, (fun q => laterT (m2 q)), (fun q => ⟨laterT (m3 q).1, laterT (m3 q).2⟩), (fun q => laterT (m5 q)), (fun q => ⟨laterT (m6 q).1, laterT (m6 q).2⟩), (fun q => laterT (m8 q)), (fun q => ⟨laterT (m9 q).1, laterT (m9 q).2⟩), (fun q => ⟨laterT (m11 q).1, laterT (m11 q).2.1, laterT (m11 q).2.2⟩), (fun q => ⟨laterT (m13 q).1, laterT (m13 q).2.1, laterT (m13 q).2.2⟩), (fun q => ⟨laterT (m15 q).1, laterT (m15 q).2.1, laterT (m15 q).2.2⟩), ((HC.out)).trans (hb.mono ((HC.out)).size), (fun a0 => ((HB.out a0)).trans (hb.mono ((HB.out a0)).size)), ((hb.block _ (blk_lt (ZR.out))).trans (ZR.out)), (fun _ _ => HR3.out), (fun a0 => absurd (show L 3 = true from a0) (by rw [n3]; decide)), (fun a0 => absurd (show L 6 = true from a0) (by rw [n6]; decide)), (fun a0 => absurd (show L 9 = true from a0) (by rw [n9]; decide)), (fun a0 a1 => absurd (show L 11 = true from a0) (by rw [n11]; decide)), (fun a0 a1 => absurd (show L 13 = true from a0) (by rw [n13]; decide)), (fun a0 => absurd (show L 15 = true from a0) (by rw [n15]; decide))⟩
    · rintro A L vs w' F G ⟨v3, v4, v5, v6, v7, v8, v9, v10, v11, v12, v13, v14, v15, rfl, d1, d2, d4, d5, d7, d8, d10, d12, d14, m2, m3, m5, m6, m8, m9, m11, m13, m15, HC, HB, ZR, R3, N6, T9, T12, D11, D13, D15⟩ hL hdep K' hK hK0
      have n2 : L 2 = false := not_yet hL (fun q => (m2 q))
      have n3 : L 3 = false := not_yet hL (fun q => (m2 ((m3 q).2)))
      have n6 : L 6 = false := not_yet hL (fun q => (m2 ((m3 ((m6 q).1)).2)))
      have n9 : L 9 = false := not_yet hL (fun q => (m2 ((m3 ((m6 ((m9 q).1)).1)).2)))
      have n11 : L 11 = false := not_yet hL (fun q => (m2 ((m3 ((m11 q).1)).2)))
      have n13 : L 13 = false := not_yet hL (fun q => (m2 ((m3 ((m6 ((m13 q).1)).1)).2)))
      have n15 : L 15 = false := not_yet hL (fun q => (m2 ((m3 ((m6 ((m9 ((m15 q).1)).1)).1)).2)))
      have gt : A.tmps[1]?.getD undef = .pointer (some ⟨w.heap.size, 0, none⟩) := evT ((G 1 (by decide)).trans rfl)
      clear F G
      go_simp
      refine hK 1 4 _ w' rfl ⟨_, _, _, _, _, _, _, _, _, _, _, _, _, rfl, (fun _ => rfl), d2, d4, d5, d7, d8, d10, d12, d14, (fun q => laterT (m2 q)), (fun q => ⟨laterT (m3 q).1, laterT (m3 q).2⟩), (fun q => laterT (m5 q)), (fun q => ⟨laterT (m6 q).1, laterT (m6 q).2⟩), (fun q => laterT (m8 q)), (fun q => ⟨laterT (m9 q).1, laterT (m9 q).2⟩), (fun q => ⟨laterT (m11 q).1, laterT (m11 q).2.1, laterT (m11 q).2.2⟩), (fun q => ⟨laterT (m13 q).1, laterT (m13 q).2.1, laterT (m13 q).2.2⟩), (fun q => ⟨laterT (m15 q).1, laterT (m15 q).2.1, laterT (m15 q).2.2⟩), HC, HB, ZR, R3, (fun a0 => absurd (show L 3 = true from a0) (by rw [n3]; decide)), (fun a0 => absurd (show L 6 = true from a0) (by rw [n6]; decide)), (fun a0 => absurd (show L 9 = true from a0) (by rw [n9]; decide)), (fun a0 a1 => absurd (show L 11 = true from a0) (by rw [n11]; decide)), (fun a0 a1 => absurd (show L 13 = true from a0) (by rw [n13]; decide)), (fun a0 => absurd (show L 15 = true from a0) (by rw [n15]; decide))⟩
    · rintro A L vs w' F G ⟨v3, v4, v5, v6, v7, v8, v9, v10, v11, v12, v13, v14, v15, rfl, d1, d2, d4, d5, d7, d8, d10, d12, d14, m2, m3, m5, m6, m8, m9, m11, m13, m15, HC, HB, ZR, R3, N6, T9, T12, D11, D13, D15⟩ hL hdep K' hK hK0
      have p1 : L 1 = true := hdep { on := 1, ground := Ground.data } (by simp) rfl
      have n3 : L 3 = false := not_yet hL (fun q => (m3 q).2)
      have n6 : L 6 = false := not_yet hL (fun q => (m3 ((m6 q).1)).2)
      have n9 : L 9 = false := not_yet hL (fun q => (m3 ((m6 ((m9 q).1)).1)).2)
      have n11 : L 11 = false := not_yet hL (fun q => (m3 ((m11 q).1)).2)
      have n13 : L 13 = false := not_yet hL (fun q => (m3 ((m6 ((m13 q).1)).1)).2)
      have n15 : L 15 = false := not_yet hL (fun q => (m3 ((m6 ((m9 ((m15 q).1)).1)).1)).2)
      have h1 := (HY.out w' (HB.out n11)).1
      obtain ⟨b0, b1, b2, b3, b4, b5, b6, b7, b8, b9, b10⟩ := block11 h1
      have q := d1 p1
      subst q
      have g1 := evT (F 1 4 _ rfl rfl)
      clear F G
      go_simp
      refine hK 2 5 _ w' rfl ⟨_, _, _, _, _, _, _, _, _, _, _, _, _, rfl, d1, (fun _ => rfl), d4, d5, d7, d8, d10, d12, d14, (fun _ => laterT p1), (fun q => ⟨laterT (m3 q).1, laterT (m3 q).2⟩), (fun q => laterT (m5 q)), (fun q => ⟨laterT (m6 q).1, laterT (m6 q).2⟩), (fun q => laterT (m8 q)), (fun q => ⟨laterT (m9 q).1, laterT (m9 q).2⟩), (fun q => ⟨laterT (m11 q).1, laterT (m11 q).2.1, laterT (m11 q).2.2⟩), (fun q => ⟨laterT (m13 q).1, laterT (m13 q).2.1, laterT (m13 q).2.2⟩), (fun q => ⟨laterT (m15 q).1, laterT (m15 q).2.1, laterT (m15 q).2.2⟩), HC, HB, ZR, R3, (fun a0 => absurd (show L 3 = true from a0) (by rw [n3]; decide)), (fun a0 => absurd (show L 6 = true from a0) (by rw [n6]; decide)), (fun a0 => absurd (show L 9 = true from a0) (by rw [n9]; decide)), (fun a0 a1 => absurd (show L 11 = true from a0) (by rw [n11]; decide)), (fun a0 a1 => absurd (show L 13 = true from a0) (by rw [n13]; decide)), (fun a0 => absurd (show L 15 = true from a0) (by rw [n15]; decide))⟩
    · rintro A L vs w' F G ⟨v3, v4, v5, v6, v7, v8, v9, v10, v11, v12, v13, v14, v15, rfl, d1, d2, d4, d5, d7, d8, d10, d12, d14, m2, m3, m5, m6, m8, m9, m11, m13, m15, HC, HB, ZR, R3, N6, T9, T12, D11, D13, D15⟩ hL hdep K' hK hK0
      have p0 : L 0 = true := hdep { on := 0, ground := Ground.data } (by simp) rfl
      have p2 : L 2 = true := hdep { on := 2, ground := Ground.data } (by simp) rfl
      have n6 : L 6 = false := not_yet hL (fun q => (m6 q).1)
      have n9 : L 9 = false := not_yet hL (fun q => (m6 ((m9 q).1)).1)
      have n11 : L 11 = false := not_yet hL (fun q => (m11 q).1)
      have n13 : L 13 = false := not_yet hL (fun q => (m6 ((m13 q).1)).1)
      have n15 : L 15 = false := not_yet hL (fun q => (m6 ((m9 ((m15 q).1)).1)).1)
      have hrow := R3.out p0 hL
      have hbz := (HB.out n11).size
      have q := d2 p2
      subst q
      refine step_append_src w' rfl (.tmp 3) (.tmp 5) 23 rfl w1.heap.size 3 i0 _ 1 8 Tryd.underlying23 hi0 hz0 hz1 hz2 rfl (by decide) v3 0 [] (F 0 3 _ rfl rfl) hrow (.slice a nm cap) nm _ (F 2 5 _ rfl rfl) (HSR.out w' (HC.out)) (by unfold maxLen; have := HNM.out; omega) (by have := HNM.out; omega) hbz ?_
      intro a' c' w2 q1 q2 q3
      rw [Nat.zero_add, List.nil_append] at q1
      rw [Nat.zero_add] at ⊢
      have hk1 : Below w1.heap.size w' w2 := (Below.refl _ _).grown q2 hbz (fun k hk => (World.ownsRow.lt hrow k hk).1)
      have HN6 : Hid (Own6 w2 w1.heap.size (.slice a' nm c') ms) := ⟨⟨_, _, by rw [HNM.out.1]⟩, by show NO _ _ _ _; unfold NO; rw [← HNM.out.1]; exact q1⟩
      have HC2 : Hid (Below w.heap.size w w2) := HC.out.trans (hk1.mono HS1.out)
      have HB2 : Hid (Below w1.heap.size w1 w2) := (HB.out n11).trans hk1
      have HZ2 : Hid (w2.heap[w.heap.size + 1]? = some (.cells #[.int .u64 0, .int .u64 0, .slice none 0 0, .int .i64 0, .int .u64 0, .string ⟨#[]⟩, .slice none 0 0, .int .i64 0, .int .u64 0, .string ⟨#[]⟩, .slice none 0 0] 28 (0, 0))) := (hk1.block _ HS2.out).trans ZR.out
      clear hrow hbz q1 q2 q3 hk1
      refine hK 3 6 _ w2 rfl ⟨_, _, _, _, _, _, _, _, _, _, _, _, _, rfl, d1, d2, d4, d5, d7, d8, d10, d12, d14, (fun q => laterT (m2 q)), (fun _ => ⟨laterT p0, laterT p2⟩), (fun q => laterT (m5 q)), (fun q => ⟨laterT (m6 q).1, laterT (m6 q).2⟩), (fun q => laterT (m8 q)), (fun q => ⟨laterT (m9 q).1, laterT (m9 q).2⟩), (fun q => ⟨laterT (m11 q).1, laterT (m11 q).2.1, laterT (m11 q).2.2⟩), (fun q => ⟨laterT (m13 q).1, laterT (m13 q).2.1, laterT (m13 q).2.2⟩), (fun q => ⟨laterT (m15 q).1, laterT (m15 q).2.1, laterT (m15 q).2.2⟩), HC2, (fun _ => HB2.out), HZ2, (fun a0 a1 => absurd (show true = false from a1) (by decide)), (fun _ => HN6.out), (fun a0 => absurd (show L 6 = true from a0) (by rw [n6]; decide)), (fun a0 => absurd (show L 9 = true from a0) (by rw [n9]; decide)), (fun a0 a1 => absurd (show L 11 = true from a0) (by rw [n11]; decide)), (fun a0 a1 => absurd (show L 13 = true from a0) (by rw [n13]; decide)), (fun a0 => absurd (show L 15 = true from a0) (by rw [n15]; decide))⟩
    · rintro A L vs w' F G ⟨v3, v4, v5, v6, v7, v8, v9, v10, v11, v12, v13, v14, v15, rfl, d1, d2, d4, d5, d7, d8, d10, d12, d14, m2, m3, m5, m6, m8, m9, m11, m13, m15, HC, HB, ZR, R3, N6, T9, T12, D11, D13, D15⟩ hL hdep K' hK hK0
      have n5 : L 5 = false := not_yet hL (fun q => (m5 q))
      have n6 : L 6 = false := not_yet hL (fun q => (m5 ((m6 q).2)))
      have n9 : L 9 = false := not_yet hL (fun q => (m5 ((m6 ((m9 q).1)).2)))
      have n11 : L 11 = false := not_yet hL (fun q => (m5 ((m6 ((m9 ((m11 q).2.1)).1)).2)))
      have n13 : L 13 = false := not_yet hL (fun q => (m5 ((m6 ((m13 q).1)).2)))
      have n15 : L 15 = false := not_yet hL (fun q => (m5 ((m6 ((m9 ((m15 q).1)).1)).2)))
      have gt : A.tmps[1]?.getD undef = .pointer (some ⟨w.heap.size, 0, none⟩) := evT ((G 1 (by decide)).trans rfl)
      clear F G
      go_simp
      refine hK 4 7 _ w' rfl ⟨_, _, _, _, _, _, _, _, _, _, _, _, _, rfl, d1, d2, (fun _ => rfl), d5, d7, d8, d10, d12, d14, (fun q => laterT (m2 q)), (fun q => ⟨laterT (m3 q).1, laterT (m3 q).2⟩), (fun q => laterT (m5 q)), (fun q => ⟨laterT (m6 q).1, laterT (m6 q).2⟩), (fun q => laterT (m8 q)), (fun q => ⟨laterT (m9 q).1, laterT (m9 q).2⟩), (fun q => ⟨laterT (m11 q).1, laterT (m11 q).2.1, laterT (m11 q).2.2⟩), (fun q => ⟨laterT (m13 q).1, laterT (m13 q).2.1, laterT (m13 q).2.2⟩), (fun q => ⟨laterT (m15 q).1, laterT (m15 q).2.1, laterT (m15 q).2.2⟩), HC, HB, ZR, R3, N6, (fun a0 => absurd (show L 6 = true from a0) (by rw [n6]; decide)), (fun a0 => absurd (show L 9 = true from a0) (by rw [n9]; decide)), (fun a0 a1 => absurd (show L 11 = true from a0) (by rw [n11]; decide)), (fun a0 a1 => absurd (show L 13 = true from a0) (by rw [n13]; decide)), (fun a0 => absurd (show L 15 = true from a0) (by rw [n15]; decide))⟩
    · rintro A L vs w' F G ⟨v3, v4, v5, v6, v7, v8, v9, v10, v11, v12, v13, v14, v15, rfl, d1, d2, d4, d5, d7, d8, d10, d12, d14, m2, m3, m5, m6, m8, m9, m11, m13, m15, HC, HB, ZR, R3, N6, T9, T12, D11, D13, D15⟩ hL hdep K' hK hK0
      have p4 : L 4 = true := hdep { on := 4, ground := Ground.data } (by simp) rfl
      have n6 : L 6 = false := not_yet hL (fun q => (m6 q).2)
      have n9 : L 9 = false := not_yet hL (fun q => (m6 ((m9 q).1)).2)
      have n11 : L 11 = false := not_yet hL (fun q => (m6 ((m9 ((m11 q).2.1)).1)).2)
      have n13 : L 13 = false := not_yet hL (fun q => (m6 ((m13 q).1)).2)
      have n15 : L 15 = false := not_yet hL (fun q => (m6 ((m9 ((m15 q).1)).1)).2)
      have h1 := (HY.out w' (HB.out n11)).1
      obtain ⟨b0, b1, b2, b3, b4, b5, b6, b7, b8, b9, b10⟩ := block11 h1
      have q := d4 p4
      subst q
      have g4 := evT (F 4 7 _ rfl rfl)
      clear F G
      go_simp
      refine hK 5 8 _ w' rfl ⟨_, _, _, _, _, _, _, _, _, _, _, _, _, rfl, d1, d2, d4, (fun _ => rfl), d7, d8, d10, d12, d14, (fun q => laterT (m2 q)), (fun q => ⟨laterT (m3 q).1, laterT (m3 q).2⟩), (fun _ => laterT p4), (fun q => ⟨laterT (m6 q).1, laterT (m6 q).2⟩), (fun q => laterT (m8 q)), (fun q => ⟨laterT (m9 q).1, laterT (m9 q).2⟩), (fun q => ⟨laterT (m11 q).1, laterT (m11 q).2.1, laterT (m11 q).2.2⟩), (fun q => ⟨laterT (m13 q).1, laterT (m13 q).2.1, laterT (m13 q).2.2⟩), (fun q => ⟨laterT (m15 q).1, laterT (m15 q).2.1, laterT (m15 q).2.2⟩), HC, HB, ZR, R3, N6, (fun a0 => absurd (show L 6 = true from a0) (by rw [n6]; decide)), (fun a0 => absurd (show L 9 = true from a0) (by rw [n9]; decide)), (fun a0 a1 => absurd (show L 11 = true from a0) (by rw [n11]; decide)), (fun a0 a1 => absurd (show L 13 = true from a0) (by rw [n13]; decide)), (fun a0 => absurd (show L 15 = true from a0) (by rw [n15]; decide))⟩
    · rintro A L vs w' F G ⟨v3, v4, v5, v6, v7, v8, v9, v10, v11, v12, v13, v14, v15, rfl, d1, d2, d4, d5, d7, d8, d10, d12, d14, m2, m3, m5, m6, m8, m9, m11, m13, m15, HC, HB, ZR, R3, N6, T9, T12, D11, D13, D15⟩ hL hdep K' hK hK0
      have p5 : L 5 = true := hdep { on := 5, ground := Ground.data } (by simp) rfl
      have p3 : L 3 = true := hdep { on := 3, ground := Ground.chain } (by simp) rfl
      have n9 : L 9 = false := not_yet hL (fun q => (m9 q).1)
      have n11 : L 11 = false := not_yet hL (fun q => (m9 ((m11 q).2.1)).1)
      have n13 : L 13 = false := not_yet hL (fun q => (m13 q).1)
      have n15 : L 15 = false := not_yet hL (fun q => (m9 ((m15 q).1)).1)
      have q := d5 p5
      subst q
      have g5 := evT (F 5 8 _ rfl rfl)
      clear F G
      go_simp
      refine (HOW1.out w' (HC.out)).mono ?_
      rintro e w2 ⟨K9, N9, S9, A9, Y9, C9, rfl, hcs, hb⟩
      have HT := hide_p (Tq.of hcs ((HB.out n11).size))
      clear hcs
      refine hK 6 9 _ w2 rfl ⟨_, _, _, _, _, _, _, _, _, _, _, _, _, rfl, d1, d2, d4, d5, d7, d8, d10, d12, d14, (fun q => laterT (m2 q)), (fun q => ⟨laterT (m3 q).1, laterT (m3 q).2⟩), (fun q => laterT (m5 q)), (fun _ => ⟨laterT p3, laterT p5⟩), (fun q => laterT (m8 q)), (fun q => ⟨laterT (m9 q).1, laterT (m9 q).2⟩), (fun q => ⟨laterT (m11 q).1, laterT (m11 q).2.1, laterT (m11 q).2.2⟩), (fun q => ⟨laterT (m13 q).1, laterT (m13 q).2.1, laterT (m13 q).2.2⟩), (fun q => ⟨laterT (m15 q).1, laterT (m15 q).2.1, laterT (m15 q).2.2⟩), ((HC.out)).trans (hb.mono ((HC.out)).size), (fun a0 => ((HB.out a0)).trans (hb.mono ((HB.out a0)).size)), ((hb.block _ (blk_lt (ZR.out))).trans (ZR.out)), (fun a0 a1 => ((R3.out a0 a1)).far hb (Nat.le_refl _)), (fun a0 => ((N6.out a0)).below hb), (fun _ => HT.out), (fun a0 => absurd (show L 9 = true from a0) (by rw [n9]; decide)), (fun a0 a1 => absurd (show L 11 = true from a0) (by rw [n11]; decide)), (fun a0 a1 => absurd (show L 13 = true from a0) (by rw [n13]; decide)), (fun a0 => absurd (show L 15 = true from a0) (by rw [n15]; decide))⟩
    · rintro A L vs w' F G ⟨v3, v4, v5, v6, v7, v8, v9, v10, v11, v12, v13, v14, v15, rfl, d1, d2, d4, d5, d7, d8, d10, d12, d14, m2, m3, m5, m6, m8, m9, m11, m13, m15, HC, HB, ZR, R3, N6, T9, T12, D11, D13, D15⟩ hL hdep K' hK hK0
      have n8 : L 8 = false := not_yet hL (fun q => (m8 q))
      have n9 : L 9 = false := not_yet hL (fun q => (m8 ((m9 q).2)))
      have n11 : L 11 = false := not_yet hL (fun q => (m8 ((m9 ((m11 q).2.1)).2)))
      have n13 : L 13 = false := not_yet hL (fun q => (m8 ((m9 ((m11 ((m13 q).2.1)).2.1)).2)))
      have n15 : L 15 = false := not_yet hL (fun q => (m8 ((m9 ((m15 q).1)).2)))
      have gt : A.tmps[1]?.getD undef = .pointer (some ⟨w.heap.size, 0, none⟩) := evT ((G 1 (by decide)).trans rfl)
      clear F G
      go_simp
      refine hK 7 10 _ w' rfl ⟨_, _, _, _, _, _, _, _, _, _, _, _, _, rfl, d1, d2, d4, d5, (fun _ => rfl), d8, d10, d12, d14, (fun q => laterT (m2 q)), (fun q => ⟨laterT (m3 q).1, laterT (m3 q).2⟩), (fun q => laterT (m5 q)), (fun q => ⟨laterT (m6 q).1, laterT (m6 q).2⟩), (fun q => laterT (m8 q)), (fun q => ⟨laterT (m9 q).1, laterT (m9 q).2⟩), (fun q => ⟨laterT (m11 q).1, laterT (m11 q).2.1, laterT (m11 q).2.2⟩), (fun q => ⟨laterT (m13 q).1, laterT (m13 q).2.1, laterT (m13 q).2.2⟩), (fun q => ⟨laterT (m15 q).1, laterT (m15 q).2.1, laterT (m15 q).2.2⟩), HC, HB, ZR, R3, N6, T9, (fun a0 => absurd (show L 9 = true from a0) (by rw [n9]; decide)), (fun a0 a1 => absurd (show L 11 = true from a0) (by rw [n11]; decide)), (fun a0 a1 => absurd (show L 13 = true from a0) (by rw [n13]; decide)), (fun a0 => absurd (show L 15 = true from a0) (by rw [n15]; decide))⟩
    · rintro A L vs w' F G ⟨v3, v4, v5, v6, v7, v8, v9, v10, v11, v12, v13, v14, v15, rfl, d1, d2, d4, d5, d7, d8, d10, d12, d14, m2, m3, m5, m6, m8, m9, m11, m13, m15, HC, HB, ZR, R3, N6, T9, T12, D11, D13, D15⟩ hL hdep K' hK hK0
      have p7 : L 7 = true := hdep { on := 7, ground := Ground.data } (by simp) rfl
      have n9 : L 9 = false := not_yet hL (fun q => (m9 q).2)
      have n11 : L 11 = false := not_yet hL (fun q => (m9 ((m11 q).2.1)).2)
      have n13 : L 13 = false := not_yet hL (fun q => (m9 ((m11 ((m13 q).2.1)).2.1)).2)
      have n15 : L 15 = false := not_yet hL (fun q => (m9 ((m15 q).1)).2)
      have h1 := (HY.out w' (HB.out n11)).1
      obtain ⟨b0, b1, b2, b3, b4, b5, b6, b7, b8, b9, b10⟩ := block11 h1
      have q := d7 p7
      subst q
      have g7 := evT (F 7 10 _ rfl rfl)
      clear F G
      go_simp
      refine hK 8 11 _ w' rfl ⟨_, _, _, _, _, _, _, _, _, _, _, _, _, rfl, d1, d2, d4, d5, d7, (fun _ => rfl), d10, d12, d14, (fun q => laterT (m2 q)), (fun q => ⟨laterT (m3 q).1, laterT (m3 q).2⟩), (fun q => laterT (m5 q)), (fun q => ⟨laterT (m6 q).1, laterT (m6 q).2⟩), (fun _ => laterT p7), (fun q => ⟨laterT (m9 q).1, laterT (m9 q).2⟩), (fun q => ⟨laterT (m11 q).1, laterT (m11 q).2.1, laterT (m11 q).2.2⟩), (fun q => ⟨laterT (m13 q).1, laterT (m13 q).2.1, laterT (m13 q).2.2⟩), (fun q => ⟨laterT (m15 q).1, laterT (m15 q).2.1, laterT (m15 q).2.2⟩), HC, HB, ZR, R3, N6, T9, (fun a0 => absurd (show L 9 = true from a0) (by rw [n9]; decide)), (fun a0 a1 => absurd (show L 11 = true from a0) (by rw [n11]; decide)), (fun a0 a1 => absurd (show L 13 = true from a0) (by rw [n13]; decide)), (fun a0 => absurd (show L 15 = true from a0) (by rw [n15]; decide))⟩
    · rintro A L vs w' F G ⟨v3, v4, v5, v6, v7, v8, v9, v10, v11, v12, v13, v14, v15, rfl, d1, d2, d4, d5, d7, d8, d10, d12, d14, m2, m3, m5, m6, m8, m9, m11, m13, m15, HC, HB, ZR, R3, N6, T9, T12, D11, D13, D15⟩ hL hdep K' hK hK0
      have p8 : L 8 = true := hdep { on := 8, ground := Ground.data } (by simp) rfl
      have p6 : L 6 = true := hdep { on := 6, ground := Ground.chain } (by simp) rfl
      have n11 : L 11 = false := not_yet hL (fun q => (m11 q).2.1)
      have n13 : L 13 = false := not_yet hL (fun q => (m11 ((m13 q).2.1)).2.1)
      have n15 : L 15 = false := not_yet hL (fun q => (m15 q).1)
      have q := d8 p8
      subst q
      have g8 := evT (F 8 11 _ rfl rfl)
      clear F G
      go_simp
      refine (HOW2.out w' (HC.out)).mono ?_
      rintro e w2 ⟨K9, N9, S9, A9, Y9, C9, rfl, hcs, hb⟩
      have HT := hide_p (Tq.of hcs ((HB.out n11).size))
      clear hcs
      refine hK 9 12 _ w2 rfl ⟨_, _, _, _, _, _, _, _, _, _, _, _, _, rfl, d1, d2, d4, d5, d7, d8, d10, d12, d14, (fun q => laterT (m2 q)), (fun q => ⟨laterT (m3 q).1, laterT (m3 q).2⟩), (fun q => laterT (m5 q)), (fun q => ⟨laterT (m6 q).1, laterT (m6 q).2⟩), (fun q => laterT (m8 q)), (fun _ => ⟨laterT p6, laterT p8⟩), (fun q => ⟨laterT (m11 q).1, laterT (m11 q).2.1, laterT (m11 q).2.2⟩), (fun q => ⟨laterT (m13 q).1, laterT (m13 q).2.1, laterT (m13 q).2.2⟩), (fun q => ⟨laterT (m15 q).1, laterT (m15 q).2.1, laterT (m15 q).2.2⟩), ((HC.out)).trans (hb.mono ((HC.out)).size), (fun a0 => ((HB.out a0)).trans (hb.mono ((HB.out a0)).size)), ((hb.block _ (blk_lt (ZR.out))).trans (ZR.out)), (fun a0 a1 => ((R3.out a0 a1)).far hb (Nat.le_refl _)), (fun a0 => ((N6.out a0)).below hb), (fun a0 => ((T9.out a0)).below hb), (fun _ => HT.out), (fun a0 a1 => absurd (show L 11 = true from a0) (by rw [n11]; decide)), (fun a0 a1 => absurd (show L 13 = true from a0) (by rw [n13]; decide)), (fun a0 => absurd (show L 15 = true from a0) (by rw [n15]; decide))⟩
    · rintro A L vs w' F G ⟨v3, v4, v5, v6, v7, v8, v9, v10, v11, v12, v13, v14, v15, rfl, d1, d2, d4, d5, d7, d8, d10, d12, d14, m2, m3, m5, m6, m8, m9, m11, m13, m15, HC, HB, ZR, R3, N6, T9, T12, D11, D13, D15⟩ hL hdep K' hK hK0
      have n11 : L 11 = false := not_yet hL (fun q => (m11 q).2.2)
      have n13 : L 13 = false := not_yet hL (fun q => (m11 ((m13 q).2.1)).2.2)
      have n15 : L 15 = false := not_yet hL (fun q => (m11 ((m13 ((m15 q).2.1)).2.1)).2.2)
      have gt : A.tmps[1]?.getD undef = .pointer (some ⟨w.heap.size, 0, none⟩) := evT ((G 1 (by decide)).trans rfl)
      clear F G
      go_simp
      refine hK 10 13 _ w' rfl ⟨_, _, _, _, _, _, _, _, _, _, _, _, _, rfl, d1, d2, d4, d5, d7, d8, (fun _ => rfl), d12, d14, (fun q => laterT (m2 q)), (fun q => ⟨laterT (m3 q).1, laterT (m3 q).2⟩), (fun q => laterT (m5 q)), (fun q => ⟨laterT (m6 q).1, laterT (m6 q).2⟩), (fun q => laterT (m8 q)), (fun q => ⟨laterT (m9 q).1, laterT (m9 q).2⟩), (fun q => ⟨laterT (m11 q).1, laterT (m11 q).2.1, laterT (m11 q).2.2⟩), (fun q => ⟨laterT (m13 q).1, laterT (m13 q).2.1, laterT (m13 q).2.2⟩), (fun q => ⟨laterT (m15 q).1, laterT (m15 q).2.1, laterT (m15 q).2.2⟩), HC, HB, ZR, R3, N6, T9, T12, (fun a0 a1 => absurd (show L 11 = true from a0) (by rw [n11]; decide)), (fun a0 a1 => absurd (show L 13 = true from a0) (by rw [n13]; decide)), (fun a0 => absurd (show L 15 = true from a0) (by rw [n15]; decide))⟩
    · rintro A L vs w' F G ⟨v3, v4, v5, v6, v7, v8, v9, v10, v11, v12, v13, v14, v15, rfl, d1, d2, d4, d5, d7, d8, d10, d12, d14, m2, m3, m5, m6, m8, m9, m11, m13, m15, HC, HB, ZR, R3, N6, T9, T12, D11, D13, D15⟩ hL hdep K' hK hK0
      have p10 : L 10 = true := hdep { on := 10, ground := Ground.data } (by simp) rfl
      have p3 : L 3 = true := hdep { on := 3, ground := Ground.data } (by simp) rfl
      have p9 : L 9 = true := hdep { on := 9, ground := Ground.chain } (by simp) rfl
      have n13 : L 13 = false := not_yet hL (fun q => (m13 q).2.1)
      have n15 : L 15 = false := not_yet hL (fun q => (m13 ((m15 q).2.1)).2.1)
      have h1 := (HY.out w' (HB.out hL)).1
      obtain ⟨⟨a6, c6, q6⟩, -⟩ := N6.out p3
      subst q6
      obtain ⟨b0, b1, b2, b3, b4, b5, b6, b7, b8, b9, b10⟩ := block11 h1
      have fz := Lib.frozen_of_heap h1
      have f2 := fz 2
      have ho : ∀ k, 0 ≤ k → k ≠ w.heap.size → (w'.setCell ⟨w.heap.size, 2, none⟩ (.slice a6 ms.length c6)).heap[k]? = w'.heap[k]? := fun k hk hk2 => (by first | exact heap_setCell_other _ _ _ _ hk2 | exact set4_oth hk2 _ _ _ _)
      have HO := hide_p (fun k (hk : w1.heap.size ≤ k) => ho k (Nat.zero_le _) (by have := HS2.out; omega))
      have HZW : Hid ((w'.setCell ⟨w.heap.size, 2, none⟩ (.slice a6 ms.length c6)).heap[w.heap.size + 1]? = some (.cells #[.int .u64 0, .int .u64 0, .slice none 0 0, .int .i64 0, .int .u64 0, .string ⟨#[]⟩, .slice none 0 0, .int .i64 0, .int .u64 0, .string ⟨#[]⟩, .slice none 0 0] 28 (0, 0))) := (ho _ (Nat.zero_le _) (by omega)).trans ZR.out
      have HCW : Hid (Below w.heap.size w (w'.setCell ⟨w.heap.size, 2, none⟩ (.slice a6 ms.length c6))) := by show Below _ _ _; first | exact HC.out.setCell (p := ⟨_, _, none⟩) (Nat.le_refl _) _ | exact (((HC.out.setCell (p := ⟨_, _, none⟩) (Nat.le_refl _) _).setCell (p := ⟨_, _, none⟩) (Nat.le_refl _) _).setCell (p := ⟨_, _, none⟩) (Nat.le_refl _) _).setCell (p := ⟨_, _, none⟩) (Nat.le_refl _) _
      have HDW := hide_p (set1_at2 h1 (.slice a6 ms.length c6))
      have q := d10 p10
      subst q
      have g10 := evT (F 10 13 _ rfl rfl)
      have g3 := evT (F 3 6 _ rfl rfl)
      clear F G fz ho h1
      go_simp
      refine hK0 _ ⟨_, _, _, _, _, _, _, _, _, _, _, _, _, rfl, d1, d2, d4, d5, d7, d8, d10, d12, d14, (fun q => laterT (m2 q)), (fun q => ⟨laterT (m3 q).1, laterT (m3 q).2⟩), (fun q => laterT (m5 q)), (fun q => ⟨laterT (m6 q).1, laterT (m6 q).2⟩), (fun q => laterT (m8 q)), (fun q => ⟨laterT (m9 q).1, laterT (m9 q).2⟩), (fun _ => ⟨laterT p3, laterT p9, laterT p10⟩), (fun q => ⟨laterT (m13 q).1, laterT (m13 q).2.1, laterT (m13 q).2.2⟩), (fun q => ⟨laterT (m15 q).1, laterT (m15 q).2.1, laterT (m15 q).2.2⟩), HCW, (fun a0 => absurd (show true = false from a0) (by decide)), HZW, (fun a0 a1 => (R3.out a0 a1).other HO.out), (fun a0 => (N6.out a0).other HO.out), (fun a0 => (T9.out a0).other HO.out), (fun a0 => (T12.out a0).other HO.out), (fun _ _ => HDW.out), (fun a0 a1 => absurd (show L 13 = true from a0) (by rw [n13]; decide)), (fun a0 => absurd (show L 15 = true from a0) (by rw [n15]; decide))⟩
    · rintro A L vs w' F G ⟨v3, v4, v5, v6, v7, v8, v9, v10, v11, v12, v13, v14, v15, rfl, d1, d2, d4, d5, d7, d8, d10, d12, d14, m2, m3, m5, m6, m8, m9, m11, m13, m15, HC, HB, ZR, R3, N6, T9, T12, D11, D13, D15⟩ hL hdep K' hK hK0
      have n13 : L 13 = false := not_yet hL (fun q => (m13 q).2.2)
      have n15 : L 15 = false := not_yet hL (fun q => (m13 ((m15 q).2.1)).2.2)
      have gt : A.tmps[1]?.getD undef = .pointer (some ⟨w.heap.size, 0, none⟩) := evT ((G 1 (by decide)).trans rfl)
      clear F G
      go_simp
      refine hK 11 14 _ w' rfl ⟨_, _, _, _, _, _, _, _, _, _, _, _, _, rfl, d1, d2, d4, d5, d7, d8, d10, (fun _ => rfl), d14, (fun q => laterT (m2 q)), (fun q => ⟨laterT (m3 q).1, laterT (m3 q).2⟩), (fun q => laterT (m5 q)), (fun q => ⟨laterT (m6 q).1, laterT (m6 q).2⟩), (fun q => laterT (m8 q)), (fun q => ⟨laterT (m9 q).1, laterT (m9 q).2⟩), (fun q => ⟨laterT (m11 q).1, laterT (m11 q).2.1, laterT (m11 q).2.2⟩), (fun q => ⟨laterT (m13 q).1, laterT (m13 q).2.1, laterT (m13 q).2.2⟩), (fun q => ⟨laterT (m15 q).1, laterT (m15 q).2.1, laterT (m15 q).2.2⟩), HC, HB, ZR, R3, N6, T9, T12, D11, (fun a0 a1 => absurd (show L 13 = true from a0) (by rw [n13]; decide)), (fun a0 => absurd (show L 15 = true from a0) (by rw [n15]; decide))⟩
    · rintro A L vs w' F G ⟨v3, v4, v5, v6, v7, v8, v9, v10, v11, v12, v13, v14, v15, rfl, d1, d2, d4, d5, d7, d8, d10, d12, d14, m2, m3, m5, m6, m8, m9, m11, m13, m15, HC, HB, ZR, R3, N6, T9, T12, D11, D13, D15⟩ hL hdep K' hK hK0
      have p12 : L 12 = true := hdep { on := 12, ground := Ground.data } (by simp) rfl
      have p6 : L 6 = true := hdep { on := 6, ground := Ground.data } (by simp) rfl
      have p11 : L 11 = true := hdep { on := 11, ground := Ground.chain } (by simp) rfl
      have n15 : L 15 = false := not_yet hL (fun q => (m15 q).2.1)
      have h1 := D11.out p11 hL
      obtain ⟨K9, N9, S9, A9, Y9, C9, q6, -⟩ := T9.out p6
      subst q6
      obtain ⟨b0, b1, b2, b3, b4, b5, b6, b7, b8, b9, b10⟩ := block11 h1
      have fz := Lib.frozen_of_heap h1
      have f3 := fz 3
      have f4 := fz 4
      have f5 := fz 5
      have f6 := fz 6
      have ho : ∀ k, 0 ≤ k → k ≠ w.heap.size → ((((w'.setCell ⟨w.heap.size, 3, none⟩ (.int .i64 K9)).setCell ⟨w.heap.size, 4, none⟩ (.int .u64 N9)).setCell ⟨w.heap.size, 5, none⟩ (.string S9)).setCell ⟨w.heap.size, 6, none⟩ (.slice A9 Y9 C9)).heap[k]? = w'.heap[k]? := fun k hk hk2 => (by first | exact heap_setCell_other _ _ _ _ hk2 | exact set4_oth hk2 _ _ _ _)
      have HO := hide_p (fun k (hk : w1.heap.size ≤ k) => ho k (Nat.zero_le _) (by have := HS2.out; omega))
      have HZW : Hid (((((w'.setCell ⟨w.heap.size, 3, none⟩ (.int .i64 K9)).setCell ⟨w.heap.size, 4, none⟩ (.int .u64 N9)).setCell ⟨w.heap.size, 5, none⟩ (.string S9)).setCell ⟨w.heap.size, 6, none⟩ (.slice A9 Y9 C9)).heap[w.heap.size + 1]? = some (.cells #[.int .u64 0, .int .u64 0, .slice none 0 0, .int .i64 0, .int .u64 0, .string ⟨#[]⟩, .slice none 0 0, .int .i64 0, .int .u64 0, .string ⟨#[]⟩, .slice none 0 0] 28 (0, 0))) := (ho _ (Nat.zero_le _) (by omega)).trans ZR.out
      have HCW : Hid (Below w.heap.size w ((((w'.setCell ⟨w.heap.size, 3, none⟩ (.int .i64 K9)).setCell ⟨w.heap.size, 4, none⟩ (.int .u64 N9)).setCell ⟨w.heap.size, 5, none⟩ (.string S9)).setCell ⟨w.heap.size, 6, none⟩ (.slice A9 Y9 C9))) := by show Below _ _ _; first | exact HC.out.setCell (p := ⟨_, _, none⟩) (Nat.le_refl _) _ | exact (((HC.out.setCell (p := ⟨_, _, none⟩) (Nat.le_refl _) _).setCell (p := ⟨_, _, none⟩) (Nat.le_refl _) _).setCell (p := ⟨_, _, none⟩) (Nat.le_refl _) _).setCell (p := ⟨_, _, none⟩) (Nat.le_refl _) _
      have HDW := hide_p (set4_at3 h1 (.int .i64 K9) (.int .u64 N9) (.string S9) (.slice A9 Y9 C9))
      have q := d12 p12
      subst q
      have g12 := evT (F 11 14 _ rfl rfl)
      have g6 := evT (F 6 9 _ rfl rfl)
      clear F G fz ho h1
      go_simp
      refine hK0 _ ⟨_, _, _, _, _, _, _, _, _, _, _, _, _, rfl, d1, d2, d4, d5, d7, d8, d10, d12, d14, (fun q => laterT (m2 q)), (fun q => ⟨laterT (m3 q).1, laterT (m3 q).2⟩), (fun q => laterT (m5 q)), (fun q => ⟨laterT (m6 q).1, laterT (m6 q).2⟩), (fun q => laterT (m8 q)), (fun q => ⟨laterT (m9 q).1, laterT (m9 q).2⟩), (fun q => ⟨laterT (m11 q).1, laterT (m11 q).2.1, laterT (m11 q).2.2⟩), (fun _ => ⟨laterT p6, laterT p11, laterT p12⟩), (fun q => ⟨laterT (m15 q).1, laterT (m15 q).2.1, laterT (m15 q).2.2⟩), HCW, (fun a0 => absurd (show L 11 = false from a0) (by rw [p11]; decide)), HZW, (fun a0 a1 => (R3.out a0 a1).other HO.out), (fun a0 => (N6.out a0).other HO.out), (fun a0 => (T9.out a0).other HO.out), (fun a0 => (T12.out a0).other HO.out), (fun a0 a1 => absurd (show true = false from a1) (by decide)), (fun _ _ => ⟨_, _, _, _, _, _, rfl, HDW.out⟩), (fun a0 => absurd (show L 15 = true from a0) (by rw [n15]; decide))⟩
    · rintro A L vs w' F G ⟨v3, v4, v5, v6, v7, v8, v9, v10, v11, v12, v13, v14, v15, rfl, d1, d2, d4, d5, d7, d8, d10, d12, d14, m2, m3, m5, m6, m8, m9, m11, m13, m15, HC, HB, ZR, R3, N6, T9, T12, D11, D13, D15⟩ hL hdep K' hK hK0
      have n15 : L 15 = false := not_yet hL (fun q => (m15 q).2.2)
      have gt : A.tmps[1]?.getD undef = .pointer (some ⟨w.heap.size, 0, none⟩) := evT ((G 1 (by decide)).trans rfl)
      clear F G
      go_simp
      refine hK 12 15 _ w' rfl ⟨_, _, _, _, _, _, _, _, _, _, _, _, _, rfl, d1, d2, d4, d5, d7, d8, d10, d12, (fun _ => rfl), (fun q => laterT (m2 q)), (fun q => ⟨laterT (m3 q).1, laterT (m3 q).2⟩), (fun q => laterT (m5 q)), (fun q => ⟨laterT (m6 q).1, laterT (m6 q).2⟩), (fun q => laterT (m8 q)), (fun q => ⟨laterT (m9 q).1, laterT (m9 q).2⟩), (fun q => ⟨laterT (m11 q).1, laterT (m11 q).2.1, laterT (m11 q).2.2⟩), (fun q => ⟨laterT (m13 q).1, laterT (m13 q).2.1, laterT (m13 q).2.2⟩), (fun q => ⟨laterT (m15 q).1, laterT (m15 q).2.1, laterT (m15 q).2.2⟩), HC, HB, ZR, R3, N6, T9, T12, D11, D13, (fun a0 => absurd (show L 15 = true from a0) (by rw [n15]; decide))⟩
    · rintro A L vs w' F G ⟨v3, v4, v5, v6, v7, v8, v9, v10, v11, v12, v13, v14, v15, rfl, d1, d2, d4, d5, d7, d8, d10, d12, d14, m2, m3, m5, m6, m8, m9, m11, m13, m15, HC, HB, ZR, R3, N6, T9, T12, D11, D13, D15⟩ hL hdep K' hK hK0
      have p14 : L 14 = true := hdep { on := 14, ground := Ground.data } (by simp) rfl
      have p9 : L 9 = true := hdep { on := 9, ground := Ground.data } (by simp) rfl
      have p13 : L 13 = true := hdep { on := 13, ground := Ground.chain } (by simp) rfl
      obtain ⟨K9, N9, S9, A9, Y9, C9, e9, h1⟩ := D13.out p13 hL
      obtain ⟨K12, N12, S12, A12, Y12, C12, q6, -⟩ := T12.out p9
      subst q6
      obtain ⟨b0, b1, b2, b3, b4, b5, b6, b7, b8, b9, b10⟩ := block11 h1
      have fz := Lib.frozen_of_heap h1
      have f7 := fz 7
      have f8 := fz 8
      have f9 := fz 9
      have f10 := fz 10
      have ho : ∀ k, 0 ≤ k → k ≠ w.heap.size → ((((w'.setCell ⟨w.heap.size, 7, none⟩ (.int .i64 K12)).setCell ⟨w.heap.size, 8, none⟩ (.int .u64 N12)).setCell ⟨w.heap.size, 9, none⟩ (.string S12)).setCell ⟨w.heap.size, 10, none⟩ (.slice A12 Y12 C12)).heap[k]? = w'.heap[k]? := fun k hk hk2 => (by first | exact heap_setCell_other _ _ _ _ hk2 | exact set4_oth hk2 _ _ _ _)
      have HO := hide_p (fun k (hk : w1.heap.size ≤ k) => ho k (Nat.zero_le _) (by have := HS2.out; omega))
      have HZW : Hid (((((w'.setCell ⟨w.heap.size, 7, none⟩ (.int .i64 K12)).setCell ⟨w.heap.size, 8, none⟩ (.int .u64 N12)).setCell ⟨w.heap.size, 9, none⟩ (.string S12)).setCell ⟨w.heap.size, 10, none⟩ (.slice A12 Y12 C12)).heap[w.heap.size + 1]? = some (.cells #[.int .u64 0, .int .u64 0, .slice none 0 0, .int .i64 0, .int .u64 0, .string ⟨#[]⟩, .slice none 0 0, .int .i64 0, .int .u64 0, .string ⟨#[]⟩, .slice none 0 0] 28 (0, 0))) := (ho _ (Nat.zero_le _) (by omega)).trans ZR.out
      have HCW : Hid (Below w.heap.size w ((((w'.setCell ⟨w.heap.size, 7, none⟩ (.int .i64 K12)).setCell ⟨w.heap.size, 8, none⟩ (.int .u64 N12)).setCell ⟨w.heap.size, 9, none⟩ (.string S12)).setCell ⟨w.heap.size, 10, none⟩ (.slice A12 Y12 C12))) := by show Below _ _ _; first | exact HC.out.setCell (p := ⟨_, _, none⟩) (Nat.le_refl _) _ | exact (((HC.out.setCell (p := ⟨_, _, none⟩) (Nat.le_refl _) _).setCell (p := ⟨_, _, none⟩) (Nat.le_refl _) _).setCell (p := ⟨_, _, none⟩) (Nat.le_refl _) _).setCell (p := ⟨_, _, none⟩) (Nat.le_refl _) _
      have HDW := hide_p (set4_at7 h1 (.int .i64 K12) (.int .u64 N12) (.string S12) (.slice A12 Y12 C12))
      have q := d14 p14
      subst q
      have g14 := evT (F 12 15 _ rfl rfl)
      have g9 := evT (F 9 12 _ rfl rfl)
      clear F G fz ho h1
      go_simp
      refine hK0 _ ⟨_, _, _, _, _, _, _, _, _, _, _, _, _, rfl, d1, d2, d4, d5, d7, d8, d10, d12, d14, (fun q => laterT (m2 q)), (fun q => ⟨laterT (m3 q).1, laterT (m3 q).2⟩), (fun q => laterT (m5 q)), (fun q => ⟨laterT (m6 q).1, laterT (m6 q).2⟩), (fun q => laterT (m8 q)), (fun q => ⟨laterT (m9 q).1, laterT (m9 q).2⟩), (fun q => ⟨laterT (m11 q).1, laterT (m11 q).2.1, laterT (m11 q).2.2⟩), (fun q => ⟨laterT (m13 q).1, laterT (m13 q).2.1, laterT (m13 q).2.2⟩), (fun _ => ⟨laterT p9, laterT p13, laterT p14⟩), HCW, (fun a0 => absurd (show L 11 = false from a0) (by rw [(m13 p13).2.1]; decide)), HZW, (fun a0 a1 => (R3.out a0 a1).other HO.out), (fun a0 => (N6.out a0).other HO.out), (fun a0 => (T9.out a0).other HO.out), (fun a0 => (T12.out a0).other HO.out), (fun _ a1 => absurd (show L 13 = false from a1) (by rw [p13]; decide)), (fun a0 a1 => absurd (show true = false from a1) (by decide)), (fun _ => ⟨_, _, _, _, _, _, _, _, _, _, _, _, e9, rfl, HDW.out⟩)⟩
    · rintro L vs w' hall ⟨v3, v4, v5, v6, v7, v8, v9, v10, v11, v12, v13, v14, v15, rfl, d1, d2, d4, d5, d7, d8, d10, d12, d14, m2, m3, m5, m6, m8, m9, m11, m13, m15, HC, HB, ZR, R3, N6, T9, T12, D11, D13, D15⟩
      have h15 := D15.out (hall 15 (by decide))
      have h6 := N6.out (hall 3 (by decide))
      have h9 := T9.out (hall 6 (by decide))
      have h12 := T12.out (hall 9 (by decide))
      have hc := HC.out
      have hz := ZR.out
      clear HC HB ZR R3 N6 T9 T12 D11 D13 D15
      obtain ⟨K9, N9, S9, A9, Y9, C9, K12, N12, S12, A12, Y12, C12, rfl, rfl, hh⟩ := h15
      obtain ⟨⟨a6, c6, rfl⟩, h6⟩ := h6
      have HE : Hid (∃ (a6 : Option Addr) (c6 : Nat) (K9 : Int) (N9 : Nat) (S9 : ByteArray) (A9 : Option Addr) (Y9 C9 : Nat) (K12 : Int) (N12 : Nat) (S12 : ByteArray) (A12 : Option Addr) (Y12 C12 : Nat), w'.heap[w.heap.size]? = some (.cells #[.int .u64 ix, .int .u64 tm, .slice a6 ms.length c6, .int .i64 K9, .int .u64 N9, .string S9, .slice A9 Y9 C9, .int .i64 K12, .int .u64 N12, .string S12, .slice A12 Y12 C12] 28 (0, 0)) ∧ NO w' w1.heap.size (.slice a6 ms.length c6) ms ∧ CS w' (fun k => w1.heap.size ≤ k) t1 (cellV K9 N9 S9 (.slice A9 Y9 C9)) ∧ CS w' (fun k => w1.heap.size ≤ k) t2 (cellV K12 N12 S12 (.slice A12 Y12 C12)) ∧ Below w.heap.size w w' ∧ w'.heap[w.heap.size + 1]? = some (.cells #[.int .u64 0, .int .u64 0, .slice none 0 0, .int .i64 0, .int .u64 0, .string ⟨#[]⟩, .slice none 0 0, .int .i64 0, .int .u64 0, .string ⟨#[]⟩, .slice none 0 0] 28 (0, 0))) :=
        ⟨a6, c6, K9, N9, S9, A9, Y9, C9, K12, N12, S12, A12, Y12, C12, hh, h6, h9.at, h12.at, hc, hz⟩
      clear hh h6 h9 h12 hc hz
      simp only [puts]
      go_simp
      go_step
      go_meet
      exact HE
  case rest =>
    obtain ⟨a6, c6, K9, N9, S9, A9, Y9, C9, K12, N12, S12, A12, Y12, C12, e1, e2, e3, e4, e5, e6⟩ := hcut.out
    obtain ⟨x0, x1, x2, x3, x4, x5, x6, x7, x8, x9, x10⟩ := block11 e1
    obtain ⟨z0, z1, z2, z3, z4, z5, z6, z7, z8, z9, z10⟩ := block11 e6
    have fz := Lib.frozen_of_heap e6
    have f0 := fz 0
    have f1 := fz 1
    have f2 := fz 2
    have f3 := fz 3
    have f4 := fz 4
    have f5 := fz 5
    have f6 := fz 6
    have f7 := fz 7
    have f8 := fz 8
    have f9 := fz 9
    have f10 := fz 10
    have HE : Hid (∀ W, W = (((((((((((wc.setCell ⟨w.heap.size + 1, 0, none⟩ (.int .u64 ix)).setCell ⟨w.heap.size + 1, 1, none⟩ (.int .u64 tm)).setCell ⟨w.heap.size + 1, 2, none⟩ (.slice a6 ms.length c6)).setCell ⟨w.heap.size + 1, 3, none⟩ (.int .i64 K9)).setCell ⟨w.heap.size + 1, 4, none⟩ (.int .u64 N9)).setCell ⟨w.heap.size + 1, 5, none⟩ (.string S9)).setCell ⟨w.heap.size + 1, 6, none⟩ (.slice A9 Y9 C9)).setCell ⟨w.heap.size + 1, 7, none⟩ (.int .i64 K12)).setCell ⟨w.heap.size + 1, 8, none⟩ (.int .u64 N12)).setCell ⟨w.heap.size + 1, 9, none⟩ (.string S12)).setCell ⟨w.heap.size + 1, 10, none⟩ (.slice A12 Y12 C12)) →
        W.heap[w.heap.size + 1]? = some (.cells #[.int .u64 ix, .int .u64 tm, .slice a6 ms.length c6, .int .i64 K9, .int .u64 N9, .string S9, .slice A9 Y9 C9, .int .i64 K12, .int .u64 N12, .string S12, .slice A12 Y12 C12] 28 (0, 0)) ∧ OwR w ⟨ix, tm, ms, t1, t2⟩ (.returned (.agg #[.int .u64 ix, .int .u64 tm, .slice a6 ms.length c6, .int .i64 K9, .int .u64 N9, .string S9, .slice A9 Y9 C9, .int .i64 K12, .int .u64 N12, .string S12, .slice A12 Y12 C12])) W) := by
      intro W hW
      have hs2 := HS2.out
      have hoth : ∀ k, w1.heap.size ≤ k → W.heap[k]? = wc.heap[k]? := fun k hk => by rw [hW]; exact set11_other (by omega) _ _ _ _ _ _ _ _ _ _ _
      exact ⟨by rw [hW]; exact set11_block e6 _ _ _ _ _ _ _ _ _ _ _, a6, c6, K9, K12, N9, N12, S9, S12, _, _, rfl, (e2.other hoth).nr, (e3.kept hoth).cr, (e4.kept hoth).cr, by rw [hW]; exact set11_below e5 (Nat.le_succ _) _ _ _ _ _ _ _ _ _ _ _⟩
    clear e1 e2 e3 e4 e5 e6 fz hcut HOW1 HOW2 HSR HY HA1z HA1 HB1 HS1 HS2 HNM
    go_wp2
    obtain ⟨y1, y2⟩ := HE.out _ rfl
    exact bodyPost_ret (results_cell_row rfl _ _ (w.heap.size + 1) _ _ _ _ rfl y1 Tryd.underlying28 rfl sz28) rfl y2

end Go.Proofs.YtjngknnkffbnmaaDoor
