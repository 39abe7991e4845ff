/-
  Layer 19: the reference's Snaps of one snapshot that is read twice, walked.
-/
import Derived.Test.YtjngknnkffbnmaaDoorSnRef7q
namespace Go.Proofs.YtjngknnkffbnmaaDoor
set_option maxRecDepth 100000
open Go.RowKit Crc Sn

namespace Sn
theorem same_self : ∀ t : Tr, sameT t t = true := by
  refine (Tr.ind (Q := fun ts => sameL ts ts = true) (fun k n s ts ih => ?_) sameL_nn (fun t ts h1 h2 => ?_)).1
  · rw [sameT_mk]
    simp [ih]
  · rw [sameL_cc, h1, h2]
    rfl
theorem sameE_self (x : Ent) : sameE x x = true := by unfold sameE; simp
end Sn

set_option maxHeartbeats 4000000 in
theorem rSnaps_like (x : Sp) (ss' st' : Tr) (mv mv' : Value) (k1 k2 k1' k2' : Int) (n1 n2 n1' n2' : Nat) (s1 s2 s1' s2' : ByteArray) (u1 u2 u1' u2' : Value) (w : World) (hm : NR w mv x.ms) (hm' : NR w mv' x.ms) (hml : x.ms.length ≤ 1000000)
    (h1 : CR w x.ss (cellV k1 n1 s1 u1)) (h2 : CR w x.st (cellV k2 n2 s2 u2)) (h1' : CR w ss' (cellV k1' n1' s1' u1')) (h2' : CR w st' (cellV k2' n2' s2' u2')) (hss : sameT x.ss ss' = true) (hst : sameT x.st st' = true) :
    Calls Tryd.prog 15 #[.agg #[.int .u64 x.ix, .int .u64 x.tm, mv, .int .i64 k1, .int .u64 n1, .string s1, u1, .int .i64 k2, .int .u64 n2, .string s2, u2], .agg #[.int .u64 x.ix, .int .u64 x.tm, mv', .int .i64 k1', .int .u64 n1', .string s1', u1', .int .i64 k2', .int .u64 n2', .string s2', u2']] w fun e w' => e = .returned (.bool true) ∧ Below w.heap.size w w' := by
  have HSE : Hid (∀ w', Below w.heap.size w w' → Calls Tryd.prog 23 #[.agg #[.int .u64 0, .int .i64 0, .string ⟨#[]⟩, mv], .agg #[.int .u64 0, .int .i64 0, .string ⟨#[]⟩, mv']] w' fun e w'' => e = .returned (.bool true) ∧ Below w'.heap.size w' w'') := by
    intro w' hb
    have := rsameE_any ⟨0, 0, ⟨#[]⟩, x.ms⟩ ⟨0, 0, ⟨#[]⟩, x.ms⟩ mv mv' w' (hm.kept hb (Nat.le_refl _)) (hm'.kept hb (Nat.le_refl _)) (by show x.ms.length ≤ _; omega)
    rw [sameE_self] at this
    exact this
  have HC1 : Hid (∀ w', Below w.heap.size w w' → Calls Tryd.prog 19 #[cellV k1 n1 s1 u1, cellV k1' n1' s1' u1'] w' fun e w'' => e = .returned (.bool true) ∧ Below w'.heap.size w' w'') := by
    intro w' hb
    have := same_any (x.ss.dep + 1) _ _ _ _ w' (Nat.lt_succ_self _) (h1.kept hb (Nat.le_refl _)) (h1'.kept hb (Nat.le_refl _))
    rw [hss] at this
    exact this
  have HC2 : Hid (∀ w', Below w.heap.size w w' → Calls Tryd.prog 19 #[cellV k2 n2 s2 u2, cellV k2' n2' s2' u2'] w' fun e w'' => e = .returned (.bool true) ∧ Below w'.heap.size w' w'') := by
    intro w' hb
    have := same_any (x.st.dep + 1) _ _ _ _ w' (Nat.lt_succ_self _) (h2.kept hb (Nat.le_refl _)) (h2'.kept hb (Nat.le_refl _))
    rw [hst] at this
    exact this
  obtain ⟨a, cap, rfl, -, -, -, -⟩ := hm.form
  obtain ⟨a', cap', rfl, -, -, -, -⟩ := hm'.form
  obtain ⟨-, -, -, a1, cp1, rfl⟩ := crTop h1
  obtain ⟨-, -, -, a2, cp2, rfl⟩ := crTop h2
  obtain ⟨-, -, -, a1', cp1', rfl⟩ := crTop h1'
  obtain ⟨-, -, -, a2', cp2', rfl⟩ := crTop h2'
  unfold cellV at HC1 HC2
  clear hm hm' h1 h2 h1' h2' hml hss hst
  generalize x.ix = ix at *
  generalize x.tm = tm at *
  generalize x.ms.length = nm at *
  generalize x.ss.l.length = m1 at *
  generalize x.st.l.length = m2 at *
  generalize ss'.l.length = m1' at *
  generalize st'.l.length = m2' at *
  obtain ⟨w1, hw1⟩ : ∃ w1, w1 = (w.alloc (.cells #[.int .u64 ix, .int .u64 tm, .slice a nm cap, .int .i64 k1, .int .u64 n1, .string s1, .slice a1 m1 cp1, .int .i64 k2, .int .u64 n2, .string s2, .slice a2 m2 cp2] 28)).alloc (.cells #[.int .u64 ix, .int .u64 tm, .slice a' nm cap', .int .i64 k1', .int .u64 n1', .string s1', .slice a1' m1' cp1', .int .i64 k2', .int .u64 n2', .string s2', .slice a2' m2' cp2'] 28) := ⟨_, rfl⟩
  have HB1 : Hid (Below w.heap.size w w1) := by show Below _ _ _; rw [hw1]; exact ((Below.refl _ _).alloc (Nat.le_refl _) _).alloc (by simp) _
  have HA1 : Hid (w1.heap[w.heap.size]? = some (.cells #[.int .u64 ix, .int .u64 tm, .slice a nm cap, .int .i64 k1, .int .u64 n1, .string s1, .slice a1 m1 cp1, .int .i64 k2, .int .u64 n2, .string s2, .slice a2 m2 cp2] 28 (0, 0)) ∧ w1.heap[w.heap.size + 1]? = some (.cells #[.int .u64 ix, .int .u64 tm, .slice a' nm cap', .int .i64 k1', .int .u64 n1', .string s1', .slice a1' m1' cp1', .int .i64 k2', .int .u64 n2', .string s2', .slice a2' m2' cp2'] 28 (0, 0))) := by
    show _ ∧ _
    rw [hw1]
    exact ⟨by rw [Below.heap_alloc _ _ _ (by simp)]; exact heap_alloc_new _ _, heap_alloc_at _ _ _ (by simp)⟩
  have HS1 : Hid (w.heap.size + 2 = w1.heap.size) := by show _ = _; rw [hw1]; simp
  have HX : Hid (∀ wq, Below w1.heap.size w1 wq → wq.heap[w.heap.size]? = some (.cells #[.int .u64 ix, .int .u64 tm, .slice a nm cap, .int .i64 k1, .int .u64 n1, .string s1, .slice a1 m1 cp1, .int .i64 k2, .int .u64 n2, .string s2, .slice a2 m2 cp2] 28 (0, 0)) ∧ wq.heap[w.heap.size + 1]? = some (.cells #[.int .u64 ix, .int .u64 tm, .slice a' nm cap', .int .i64 k1', .int .u64 n1', .string s1', .slice a1' m1' cp1', .int .i64 k2', .int .u64 n2', .string s2', .slice a2' m2' cp2'] 28 (0, 0)) ∧ Below w.heap.size w wq) := fun wq hq => by
    have := HS1.out
    exact ⟨(hq.block _ (by omega)).trans HA1.out.1, (hq.block _ (by omega)).trans HA1.out.2, HB1.out.trans (hq.mono (by omega))⟩
  obtain ⟨x0, x1, x2, x3, x4, x5, x6, x7, x8, x9, x10⟩ := block11 HA1.out.1
  obtain ⟨y0, y1, y2, y3, y4, y5, y6, y7, y8, y9, y10⟩ := block11 HA1.out.2
  go_enter Tryd.func15, Tryd.ntmps15
  go_upto_region 1 with fail
  rw [← hw1]
  clear hw1
  go_wp2_with fail
  refine (HSE.out w1 HB1.out).mono ?_
  rintro e w2 ⟨rfl, hb2⟩
  have HB2 := hide_p hb2
  clear x0 x1 x2 x3 x4 x5 x6 x7 x8 x9 x10 y0 y1 y2 y3 y4 y5 y6 y7 y8 y9 y10 hb2
  obtain ⟨x0, x1, x2, x3, x4, x5, x6, x7, x8, x9, x10⟩ := block11 (HX.out w2 HB2.out).1
  obtain ⟨y0, y1, y2, y3, y4, y5, y6, y7, y8, y9, y10⟩ := block11 (HX.out w2 HB2.out).2.1
  go_wp2_with fail
  refine (HC1.out w2 (HX.out w2 HB2.out).2.2).mono ?_
  rintro e w3 ⟨rfl, hb3⟩
  have HB3 : Hid (Below w1.heap.size w1 w3) := HB2.out.trans (hb3.mono HB2.out.size)
  clear x0 x1 x2 x3 x4 x5 x6 x7 x8 x9 x10 y0 y1 y2 y3 y4 y5 y6 y7 y8 y9 y10 hb3
  obtain ⟨x0, x1, x2, x3, x4, x5, x6, x7, x8, x9, x10⟩ := block11 (HX.out w3 HB3.out).1
  obtain ⟨y0, y1, y2, y3, y4, y5, y6, y7, y8, y9, y10⟩ := block11 (HX.out w3 HB3.out).2.1
  go_wp2_with fail
  refine (HC2.out w3 (HX.out w3 HB3.out).2.2).mono ?_
  rintro e w4 ⟨rfl, hb4⟩
  have HB4 : Hid (Below w.heap.size w w4) := (HX.out w3 HB3.out).2.2.trans (hb4.mono (HX.out w3 HB3.out).2.2.size)
  clear x0 x1 x2 x3 x4 x5 x6 x7 x8 x9 x10 y0 y1 y2 y3 y4 y5 y6 y7 y8 y9 y10 hb4
  go_wp2
  go_ret
  exact ⟨rfl, HB4.out⟩
theorem rSnaps_same (x : Sp) (mv mv' : Value) (k1 k2 k1' k2' : Int) (n1 n2 n1' n2' : Nat) (s1 s2 s1' s2' : ByteArray) (u1 u2 u1' u2' : Value) (w : World) (hm : NR w mv x.ms) (hm' : NR w mv' x.ms) (hml : x.ms.length ≤ 1000000)
    (h1 : CR w x.ss (cellV k1 n1 s1 u1)) (h2 : CR w x.st (cellV k2 n2 s2 u2)) (h1' : CR w x.ss (cellV k1' n1' s1' u1')) (h2' : CR w x.st (cellV k2' n2' s2' u2')) :
    Calls Tryd.prog 15 #[.agg #[.int .u64 x.ix, .int .u64 x.tm, mv, .int .i64 k1, .int .u64 n1, .string s1, u1, .int .i64 k2, .int .u64 n2, .string s2, u2], .agg #[.int .u64 x.ix, .int .u64 x.tm, mv', .int .i64 k1', .int .u64 n1', .string s1', u1', .int .i64 k2', .int .u64 n2', .string s2', u2']] w fun e w' => e = .returned (.bool true) ∧ Below w.heap.size w w' :=
  rSnaps_like x x.ss x.st mv mv' k1 k2 k1' k2' n1 n2 n1' n2' s1 s2 s1' s2' u1 u2 u1' u2' w hm hm' hml h1 h2 h1' h2' (same_self _) (same_self _)

end Go.Proofs.YtjngknnkffbnmaaDoor
