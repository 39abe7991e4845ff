/-
  Layer 19: the landed readSnap and Load, walked.
-/
import Derived.Test.YtjngknnkffbnmaaDoorSnLdq
import Derived.Test.YtjngknnkffbnmaaDoorSnPlain3q
import Derived.Test.YtjngknnkffbnmaaDoorCdDecodeq
import Derived.Test.YtjngknnkffbnmaaDoorGF1
import Derived.RegionTactic
namespace Go.Proofs.YtjngknnkffbnmaaDoor
set_option maxRecDepth 100000
open Go.RowKit Crc Sn

namespace Sn
theorem csKeep {w w' : World} {S : Nat → Prop} {t : Tr} {v : Value} (h : CS w S t v) (hb : Below w.heap.size w w') : CS w' S t v := (h.real.kept (fun q hq => hb.block q hq.2)).widen (fun _ hq => hq.1)
theorem NO.other {w w' : World} {B : Nat} {v : Value} {l : List Int} (h : NO w B v l) (hb : ∀ k, B ≤ k → w'.heap[k]? = w.heap[k]?) : NO w' B v l := by
  cases e : v.ownBlock with
  | none =>
    obtain ⟨l1, l2⟩ := h
    refine ⟨l1, ?_⟩
    rcases l2 with l2 | ⟨g, cap, cur, rfl, _⟩
    · exact Or.inl l2
    · simp [Value.ownBlock] at e
  | some g => exact ownsRow_far h (hb g (World.ownsRow.lt h g e).1) e
/-- What readSnap tells. -/
def RdS (w : World) (S : Nat → Prop) (t : Tr) (e : Ending) (w' : World) : Prop :=
  ∃ (ix tm : Nat) (a : Option Addr) (m c : Nat) (k1 k2 : Int) (n1 n2 : Nat) (s1 s2 : ByteArray) (a1 : Option Addr) (m1 c1 : Nat) (a2 : Option Addr) (m2 c2 : Nat), e = .returned (.tuple #[.agg #[.int .u64 ix, .int .u64 tm, .slice a m c, .int .i64 k1, .int .u64 n1, .string s1, .slice a1 m1 c1, .int .i64 k2, .int .u64 n2, .string s2, .slice a2 m2 c2], .bool (okS t)]) ∧ Below w.heap.size w w' ∧
    (okS t = true → ix = (atT t 0).n ∧ tm = (atT t 1).n ∧ NO w' w.heap.size (.slice a m c) (numsL (atT t 2)) ∧ CS w' S (atT t 3) (cellV k1 n1 s1 (.slice a1 m1 c1)) ∧ CS w' S (atT t 4) (cellV k2 n2 s2 (.slice a2 m2 c2)))
theorem rd_zero {w W wk : World} {b : Nat} (hblk : wk.heap[b]? = some (.cells #[.int .u64 0, .int .u64 0, .slice none 0 0, .int .i64 0, .int .u64 0, .string ⟨#[]⟩, .slice none 0 0, .int .i64 0, .int .u64 0, .string ⟨#[]⟩, .slice none 0 0] 28 (0, 0))) (hb : w.heap.size ≤ b) (hB : Below w.heap.size w wk)
    (hW : W = (((((((((((wk.setCell ⟨b, 0, none⟩ (.int .u64 (0 : Nat))).setCell ⟨b, 1, none⟩ (.int .u64 (0 : Nat))).setCell ⟨b, 2, none⟩ (.slice none 0 0)).setCell ⟨b, 3, none⟩ (.int .i64 0)).setCell ⟨b, 4, none⟩ (.int .u64 (0 : Nat))).setCell ⟨b, 5, none⟩ (.string nob)).setCell ⟨b, 6, none⟩ (.slice none 0 0)).setCell ⟨b, 7, none⟩ (.int .i64 0)).setCell ⟨b, 8, none⟩ (.int .u64 (0 : Nat))).setCell ⟨b, 9, none⟩ (.string nob)).setCell ⟨b, 10, none⟩ (.slice none 0 0))) : W.heap[b]? = some (.cells #[.int .u64 (0 : Nat), .int .u64 (0 : Nat), .slice none 0 0, .int .i64 0, .int .u64 (0 : Nat), .string nob, .slice none 0 0, .int .i64 0, .int .u64 (0 : Nat), .string nob, .slice none 0 0] 28 (0, 0)) ∧ Below w.heap.size w W := by
  subst hW
  exact ⟨set11_block hblk _ _ _ _ _ _ _ _ _ _ _, set11_below hB hb _ _ _ _ _ _ _ _ _ _ _⟩
theorem list5 {l : List Tr} (h : l.length = 5) : ∃ p0 p1 p2 p3 p4, l = [p0, p1, p2, p3, p4] := by
  match l, h with
  | [p0, p1, p2, p3, p4], _ => exact ⟨p0, p1, p2, p3, p4, rfl⟩
end Sn

set_option maxHeartbeats 1200000 in
theorem readSnap_any (S : Nat → Prop) (t : Tr) (v : Value) (w : World) (h : CS w S t v) (hl2 : (atT t 2).l.length ≤ 1000000) :
    Calls Tryd.prog 37 #[v] w (RdS w S t) := by
  obtain ⟨a, cap, rfl⟩ := crShape h.cr
  obtain ⟨k, n, s, l⟩ := t
  simp only at h hl2 ⊢
  have HT : Hid (∀ w', Below w.heap.size w w' → Calls Tryd.prog 45 #[cellV k n s (.slice a l.length cap)] w' fun e w'' => ∃ (p q : Nat) (a' : Option Addr) (n' c' : Nat), e = .returned (.tuple #[.int .u64 p, .int .u64 q, .slice a' n' c', .bool (twoB (.mk k n s l))]) ∧ Below w'.heap.size w' w'' ∧ (twoB (.mk k n s l) = true → p = (atT (.mk k n s l) 0).n ∧ q = (atT (.mk k n s l) 1).n ∧ n' = l.length - 2 ∧ CS w'' (fun q => S q ∧ q < w.heap.size) (lisT (l.drop 2)) (cellV 2 0 nob (.slice a' n' c')))) := by
    intro w' hb
    have h9 := twoNumbers_any (fun q => S q ∧ q < w.heap.size) _ _ w' (csKeep h.real hb)
    refine h9.mono ?_
    rintro e w'' ⟨p, q, a', n', c', he, hq, hi⟩
    exact ⟨p, q, a', n', c', he, hq, fun e1 => ⟨(hi e1).1, (hi e1).2.1, (hi e1).2.2.1, csKeep (hi e1).2.2.2 hq⟩⟩
  have HRM : Hid (∀ w' p v', atT (.mk k n s l) 2 = p → CR w' p v' → Calls Tryd.prog 47 #[v'] w' fun e w'' => ∃ a' n' c', e = .returned (.tuple #[.slice a' n' c', .bool (rmB p)]) ∧ Below w'.heap.size w' w'' ∧ (rmB p = true → NO w'' w'.heap.size (.slice a' n' c') (numsL p))) := fun w' p v' e hc => readMembers_any p v' w' hc (by rw [← e]; exact hl2)
  obtain ⟨R, hR⟩ : ∃ R, R = okS (.mk k n s l) := ⟨_, rfl⟩
  obtain ⟨TW, hTW⟩ : ∃ TW, TW = twoB (.mk k n s l) := ⟨_, rfl⟩
  have HTW0 : Hid (TW = true → twoB (.mk k n s l) = true) := fun e => by rw [← hTW]; exact e
  have HK : Hid (TW = true → k = 2) := fun e => by rw [hTW] at e; unfold twoB at e; simp only [Bool.and_eq_true, decide_eq_true_eq] at e; exact e.1.1.1
  have HR : Hid (R = (TW && decide ((atT (.mk k n s l) 0).n ≤ 4611686018427387904) && decide (l.length = 5) && rmB (atT (.mk k n s l) 2))) := by show _ = _; rw [hR, hTW]; rfl
  obtain ⟨P, hP⟩ : ∃ P, P = RdS w S (.mk k n s l) := ⟨_, rfl⟩
  have HP : Hid (∀ (ix tm : Nat) (a : Option Addr) (m c : Nat) (k1 k2 : Int) (n1 n2 : Nat) (s1 s2 : ByteArray) (a1 : Option Addr) (m1 c1 : Nat) (a2 : Option Addr) (m2 c2 : Nat) (w' : World), Below w.heap.size w w' → (R = true → ix = (atT (.mk k n s l) 0).n ∧ tm = (atT (.mk k n s l) 1).n ∧ NO w' w.heap.size (.slice a m c) (numsL (atT (.mk k n s l) 2)) ∧ CS w' S (atT (.mk k n s l) 3) (cellV k1 n1 s1 (.slice a1 m1 c1)) ∧ CS w' S (atT (.mk k n s l) 4) (cellV k2 n2 s2 (.slice a2 m2 c2))) → P (.returned (.tuple #[.agg #[.int .u64 ix, .int .u64 tm, .slice a m c, .int .i64 k1, .int .u64 n1, .string s1, .slice a1 m1 c1, .int .i64 k2, .int .u64 n2, .string s2, .slice a2 m2 c2], .bool R])) w') := by
    intro ix tm a m c k1 k2 n1 n2 s1 s2 a1 m1 c1 a2 m2 c2 w' h1 h2
    rw [hP]
    rw [hR] at h2 ⊢
    exact ⟨ix, tm, a, m, c, k1, k2, n1, n2, s1, s2, a1, m1, c1, a2, m2, c2, rfl, h1, h2⟩
  rw [← hP]
  rw [← hTW] at HT
  obtain ⟨N, hN⟩ : ∃ N, N = l.length := ⟨_, rfl⟩
  have HN := hide_p hN
  rw [← hN] at HT HR ⊢
  clear h hl2 hR hTW hP hN
  unfold cellV at HT ⊢
  obtain ⟨w1, hw1⟩ : ∃ w1, w1 = (w.alloc (.cells #[.int .i64 k, .int .u64 n, .string s, .slice a N cap] 26)).alloc (.cells #[.int .u64 0, .int .u64 0, .slice none 0 0, .int .i64 0, .int .u64 0, .string ⟨#[]⟩, .slice none 0 0, .int .i64 0, .int .u64 0, .string ⟨#[]⟩, .slice none 0 0] 28) := ⟨_, rfl⟩
  have HS1 : Hid (w1.heap.size = w.heap.size + 2) := by show _ = _; rw [hw1]; simp
  have HB1 : Hid (Below w.heap.size w w1) := by show Below _ _ _; rw [hw1]; exact ((Below.refl _ _).alloc (Nat.le_refl _) _).alloc (by simp) _
  have HA1 : Hid (w1.heap[w.heap.size]? = some (.cells #[.int .i64 k, .int .u64 n, .string s, .slice a N cap] 26 (0, 0)) ∧ w1.heap[w.heap.size + 1]? = some (.cells #[.int .u64 0, .int .u64 0, .slice none 0 0, .int .i64 0, .int .u64 0, .string ⟨#[]⟩, .slice none 0 0, .int .i64 0, .int .u64 0, .string ⟨#[]⟩, .slice none 0 0] 28 (0, 0))) := by
    show _ ∧ _
    rw [hw1]
    exact ⟨by rw [Below.heap_alloc _ _ _ (by simp)]; exact heap_alloc_new _ _, heap_alloc_at _ _ _ (by simp)⟩
  have HX : Hid (∀ wq, Below (w.heap.size + 2) w1 wq → wq.heap[w.heap.size + 1]? = some (.cells #[.int .u64 0, .int .u64 0, .slice none 0 0, .int .i64 0, .int .u64 0, .string ⟨#[]⟩, .slice none 0 0, .int .i64 0, .int .u64 0, .string ⟨#[]⟩, .slice none 0 0] 28 (0, 0)) ∧ Below w.heap.size w wq) := fun wq hq => ⟨(hq.block _ (by omega)).trans HA1.out.2, HB1.out.trans (hq.mono (by omega))⟩
  obtain ⟨x0, x1, x2, x3⟩ := block4 HA1.out.1
  go_enter Tryd.func37, Tryd.ntmps37
  go_upto_region 1 with fail
  rw [← hw1]
  clear hw1
  go_wp2_with fail
  refine (HT.out w1 HB1.out).mono ?_
  rintro e w2 ⟨p, q, a', n', c', rfl, hb2, hcs⟩
  have HB2 : Hid (Below (w.heap.size + 2) w1 w2) := hb2.mono (by have := HS1.out; omega)
  have HL2 : Hid (w.heap.size + 2 ≤ w2.heap.size) := by have := hb2.size; have := HS1.out; show _ ≤ _; omega
  have HCS := hide_p hcs
  clear x0 x1 x2 x3 hcs hb2 HT
  cases TW with
  | false =>
    have hR : R = false := by rw [HR.out]; simp
    clear HCS HR HK HRM
    subst hR
    obtain ⟨q1, q2⟩ := HX.out w2 HB2.out
    obtain ⟨r0, r1, r2, r3, r4, r5, r6, r7, r8, r9, r10⟩ := block11 q1
    have fz := Lib.frozen_of_heap q1
    have f0 := fz 0
    have f1 := fz 1
    have f2 := fz 2
    have f3 := fz 3
    have f4 := fz 4
    have f5 := fz 5
    have f6 := fz 6
    have f7 := fz 7
    have f8 := fz 8
    have f9 := fz 9
    have f10 := fz 10
    have HZ := hide_p (fun W => rd_zero (W := W) q1 (Nat.le_succ _) q2)
    clear q1 q2 fz
    go_wp2
    obtain ⟨y1, y2⟩ := HZ.out _ rfl
    exact bodyPost_ret (Sn.results_cell_tmp (p := 2) (q := 3) rfl _ _ (w.heap.size + 1) _ _ _ _ rfl y1 Tryd.underlying28 rfl sz28) rfl (HP.out _ _ _ _ _ _ _ _ _ _ _ _ _ _ _ _ _ _ y2 (fun e => by cases e))
  | true =>
    have hk : k = 2 := HK.out rfl
    subst hk
    obtain ⟨rfl, rfl, hn', hcs⟩ := HCS.out rfl
    have HC2 := hide_p hcs
    have HTW := hide_p (HTW0.out rfl)
    clear hcs HCS HK
    by_cases ci : (atT (.mk 2 n s l) 0).n > 4611686018427387904
    · have hR : R = false := by
        rw [HR.out, decide_eq_false (show ¬ (atT (.mk 2 n s l) 0).n ≤ 4611686018427387904 by omega)]
        simp
      have ci2 : (4611686018427387904 : Int) < ((atT (.mk 2 n s l) 0).n : Int) := by omega
      clear HR HRM HC2
      generalize (atT (.mk 2 n s l) 0).n = p at *
      generalize (atT (.mk 2 n s l) 1).n = q at *
      subst hR
      obtain ⟨q1, q2⟩ := HX.out w2 HB2.out
      obtain ⟨r0, r1, r2, r3, r4, r5, r6, r7, r8, r9, r10⟩ := block11 q1
      have fz := Lib.frozen_of_heap q1
      have f0 := fz 0
      have f1 := fz 1
      have f2 := fz 2
      have f3 := fz 3
      have f4 := fz 4
      have f5 := fz 5
      have f6 := fz 6
      have f7 := fz 7
      have f8 := fz 8
      have f9 := fz 9
      have f10 := fz 10
      have HZ := hide_p (fun W => rd_zero (W := W) q1 (Nat.le_succ _) q2)
      clear q1 q2 fz
      go_wp2
      obtain ⟨y1, y2⟩ := HZ.out _ rfl
      exact bodyPost_ret (Sn.results_cell_tmp (p := 2) (q := 3) rfl _ _ (w.heap.size + 1) _ _ _ _ rfl y1 Tryd.underlying28 rfl sz28) rfl (HP.out _ _ _ _ _ _ _ _ _ _ _ _ _ _ _ _ _ _ y2 (fun e => by cases e))
    · have ci2 : ¬ (4611686018427387904 : Int) < ((atT (.mk 2 n s l) 0).n : Int) := by omega
      have dci : decide ((4611686018427387904 : Int) < ((atT (.mk 2 n s l) 0).n : Int)) = false := decide_eq_false ci2
      by_cases cn : N = 5
      · have hn3 : n' = 3 := by have := HN.out; omega
        subst hn3
        obtain ⟨p0, p1, p2, p3, p4, el⟩ := list5 (by rw [← HN.out]; exact cn)
        have hcs : CS w2 (fun q => S q ∧ q < w.heap.size) (.mk 2 0 nob [p2, p3, p4]) (cellV 2 0 nob (.slice a' [p2, p3, p4].length c')) := by
          have := HC2.out
          rw [el] at this
          exact this
        obtain ⟨g, o, b2, c2, rfl, -, ly2, hc2⟩ := csGet hcs 0 (by simp)
        obtain ⟨g3, o3, b3, c3, e3, -, ly3, hc3⟩ := csGet hcs 1 (by simp)
        obtain ⟨g4, o4, b4, c4, e4, -, ly4, hc4⟩ := csGet hcs 2 (by simp)
        cases e3
        cases e4
        simp only [List.getElem_cons_zero, List.getElem_cons_succ] at ly2 hc2 ly3 hc3 ly4 hc4
        have E2 : atT (.mk 2 n s l) 2 = p2 := by rw [el]; rfl
        have E3 : atT (.mk 2 n s l) 3 = p3 := by rw [el]; rfl
        have E4 : atT (.mk 2 n s l) 4 = p4 := by rw [el]; rfl
        have hcall := HRM.out w2 p2 _ E2 hc2.cr
        rw [E2, E3, E4] at HP
        rw [E2] at HR
        have H3 := hide_p hc3
        have H4 := hide_p hc4
        have HY : Hid (Lies w2 g o 1 p3.k p3.n p3.s (.slice b3 p3.l.length c3) ∧ Lies w2 g o 2 p4.k p4.n p4.s (.slice b4 p4.l.length c4)) := ⟨ly3, ly4⟩
        obtain ⟨l0, l1, l2, l3⟩ := ly2
        simp only [Nat.zero_mul, Nat.add_zero] at l0 l1 l2 l3
        have hR : Hid (R = rmB p2) := by show _ = _; rw [HR.out, decide_eq_true cn, decide_eq_true (show (atT (.mk 2 n s l) 0).n ≤ 4611686018427387904 by omega)]; simp
        have hcap := (crParts hcs.cr).2.2.2.1
        have hcap2 := (crParts hcs.cr).2.2.2.2.1
        simp only [List.length_cons, List.length_nil] at hcap
        clear E2 E3 E4 HR HRM HC2 hc2 hc3 hc4 ly3 ly4 hcs
        unfold cellV at hcall H3 H4
        generalize (atT (.mk 2 n s l) 0).n = p at *
        generalize (atT (.mk 2 n s l) 1).n = q at *
        generalize rmB p2 = RM at *
        generalize numsL p2 = L2 at *
        generalize p2.k = v2k at *
        generalize p2.n = v2n at *
        generalize p2.s = v2s at *
        generalize p2.l.length = v2m at *
        clear el hn' HN
        clear p0 p1
        go_wp2_with fail
        refine hcall.mono ?_
        rintro e w5 ⟨a5, n5, c5, rfl, hb5, hno⟩
        have HB5 : Hid (Below (w.heap.size + 2) w1 w5) := HB2.out.trans (hb5.mono HL2.out)
        have hRR := hR.out
        clear hcall l0 l1 l2 l3
        subst hRR
        cases R with
        | false =>
          clear HY H3 H4 hno hb5
          obtain ⟨q1, q2⟩ := HX.out w5 HB5.out
          obtain ⟨r0, r1, r2, r3, r4, r5, r6, r7, r8, r9, r10⟩ := block11 q1
          have fz := Lib.frozen_of_heap q1
          have f0 := fz 0
          have f1 := fz 1
          have f2 := fz 2
          have f3 := fz 3
          have f4 := fz 4
          have f5 := fz 5
          have f6 := fz 6
          have f7 := fz 7
          have f8 := fz 8
          have f9 := fz 9
          have f10 := fz 10
          have HZ := hide_p (fun W => rd_zero (W := W) q1 (Nat.le_succ _) q2)
          clear q1 q2 fz
          go_wp2
          obtain ⟨y1, y2⟩ := HZ.out _ rfl
          exact bodyPost_ret (Sn.results_cell_tmp (p := 2) (q := 3) rfl _ _ (w.heap.size + 1) _ _ _ _ rfl y1 Tryd.underlying28 rfl sz28) rfl (HP.out _ _ _ _ _ _ _ _ _ _ _ _ _ _ _ _ _ _ y2 (fun e => by cases e))
        | true =>
          have HNO := hide_p (hno rfl)
          obtain ⟨y0, y1, y2, y3⟩ := HY.out.1.below hb5 (Nat.le_refl _)
          obtain ⟨z0, z1, z2, z3⟩ := HY.out.2.below hb5 (Nat.le_refl _)
          simp only [Nat.one_mul] at y0 y1 y2 y3
          have H35 := hide_p (csKeep H3.out hb5)
          have H45 := hide_p (csKeep H4.out hb5)
          have H3P := hide_p (fun mm (e : p3.l.length = mm) => e)
          clear hno HY H3 H4
          obtain ⟨q1, q2⟩ := HX.out w5 HB5.out
          obtain ⟨r0, r1, r2, r3, r4, r5, r6, r7, r8, r9, r10⟩ := block11 q1
          have fz := Lib.frozen_of_heap q1
          have f0 := fz 0
          have f1 := fz 1
          have f2 := fz 2
          have f3 := fz 3
          have f4 := fz 4
          have f5 := fz 5
          have f6 := fz 6
          have f7 := fz 7
          have f8 := fz 8
          have f9 := fz 9
          have f10 := fz 10
          have HQ : Hid (∀ W : World, W = (((((((((((w5.setCell ⟨w.heap.size + 1, 0, none⟩ (.int .u64 p)).setCell ⟨w.heap.size + 1, 1, none⟩ (.int .u64 q)).setCell ⟨w.heap.size + 1, 2, none⟩ (.slice a5 n5 c5)).setCell ⟨w.heap.size + 1, 3, none⟩ (.int .i64 p3.k)).setCell ⟨w.heap.size + 1, 4, none⟩ (.int .u64 p3.n)).setCell ⟨w.heap.size + 1, 5, none⟩ (.string p3.s)).setCell ⟨w.heap.size + 1, 6, none⟩ (.slice b3 p3.l.length c3)).setCell ⟨w.heap.size + 1, 7, none⟩ (.int .i64 p4.k)).setCell ⟨w.heap.size + 1, 8, none⟩ (.int .u64 p4.n)).setCell ⟨w.heap.size + 1, 9, none⟩ (.string p4.s)).setCell ⟨w.heap.size + 1, 10, none⟩ (.slice b4 p4.l.length c4)) → W.heap[w.heap.size + 1]? = some (.cells #[.int .u64 p, .int .u64 q, .slice a5 n5 c5, .int .i64 p3.k, .int .u64 p3.n, .string p3.s, .slice b3 p3.l.length c3, .int .i64 p4.k, .int .u64 p4.n, .string p4.s, .slice b4 p4.l.length c4] 28 (0, 0)) ∧ Below w.heap.size w W ∧ (∀ kk, kk ≠ w.heap.size + 1 → W.heap[kk]? = w5.heap[kk]?)) := by
            intro W hW
            subst hW
            exact ⟨set11_block q1 _ _ _ _ _ _ _ _ _ _ _, set11_below q2 (Nat.le_succ _) _ _ _ _ _ _ _ _ _ _ _, fun kk hk => set11_other hk _ _ _ _ _ _ _ _ _ _ _⟩
          clear fz q1 q2 hb5 H3P
          generalize p3.k = v3k at *
          generalize p3.n = v3n at *
          generalize p3.s = v3s at *
          generalize p3.l.length = v3m at *
          generalize p4.k = v4k at *
          generalize p4.n = v4n at *
          generalize p4.s = v4s at *
          generalize p4.l.length = v4m at *
          go_upto_region 7 with fail
          go_region
          go_wp2
          obtain ⟨W, hW⟩ : ∃ W, W = (((((((((((w5.setCell ⟨w.heap.size + 1, 0, none⟩ (.int .u64 p)).setCell ⟨w.heap.size + 1, 1, none⟩ (.int .u64 q)).setCell ⟨w.heap.size + 1, 2, none⟩ (.slice a5 n5 c5)).setCell ⟨w.heap.size + 1, 3, none⟩ (.int .i64 v3k)).setCell ⟨w.heap.size + 1, 4, none⟩ (.int .u64 v3n)).setCell ⟨w.heap.size + 1, 5, none⟩ (.string v3s)).setCell ⟨w.heap.size + 1, 6, none⟩ (.slice b3 v3m c3)).setCell ⟨w.heap.size + 1, 7, none⟩ (.int .i64 v4k)).setCell ⟨w.heap.size + 1, 8, none⟩ (.int .u64 v4n)).setCell ⟨w.heap.size + 1, 9, none⟩ (.string v4s)).setCell ⟨w.heap.size + 1, 10, none⟩ (.slice b4 v4m c4)) := ⟨_, rfl⟩
          obtain ⟨t1, t2, t3⟩ := HQ.out W hW
          rw [← hW]
          clear hW HQ
          have t1d : W.drew.heap[w.heap.size + 1]? = some (.cells #[.int .u64 p, .int .u64 q, .slice a5 n5 c5, .int .i64 v3k, .int .u64 v3n, .string v3s, .slice b3 v3m c3, .int .i64 v4k, .int .u64 v4n, .string v4s, .slice b4 v4m c4] 28 (0, 0)) := t1
          refine bodyPost_ret (Sn.results_cell_tmp (p := 2) (q := 3) rfl _ _ (w.heap.size + 1) _ _ _ _ rfl t1d Tryd.underlying28 rfl sz28) rfl (HP.out _ _ _ _ _ _ _ _ _ _ _ _ _ _ _ _ _ _ t2.drew (fun _ => ⟨rfl, rfl, ?_, ?_, ?_⟩))
          · exact (HNO.out.other (fun kk hk => t3 kk (by have := HL2.out; omega))).low (by have := HL2.out; omega)
          · exact (H35.out.kept (w' := W.drew) (fun kk hk => t3 kk (by have := hk.2; omega))).widen (fun _ hk => hk.1)
          · exact (H45.out.kept (w' := W.drew) (fun kk hk => t3 kk (by have := hk.2; omega))).widen (fun _ hk => hk.1)
      · have hR : R = false := by
          rw [HR.out, decide_eq_false cn]
          simp
        have hn3 : ((n' : Int) != 3) = true := by
          have := HN.out
          have h2 : twoB (.mk 2 n s l) = true → 2 ≤ l.length := fun e => by unfold twoB at e; simp only [Bool.and_eq_true, decide_eq_true_eq] at e; exact e.1.1.2
          have := h2 HTW.out
          simp
          omega
        clear HR HRM HC2
        generalize (atT (.mk 2 n s l) 0).n = p at *
        generalize (atT (.mk 2 n s l) 1).n = q at *
        subst hR
        obtain ⟨q1, q2⟩ := HX.out w2 HB2.out
        obtain ⟨r0, r1, r2, r3, r4, r5, r6, r7, r8, r9, r10⟩ := block11 q1
        have fz := Lib.frozen_of_heap q1
        have f0 := fz 0
        have f1 := fz 1
        have f2 := fz 2
        have f3 := fz 3
        have f4 := fz 4
        have f5 := fz 5
        have f6 := fz 6
        have f7 := fz 7
        have f8 := fz 8
        have f9 := fz 9
        have f10 := fz 10
        have HZ := hide_p (fun W => rd_zero (W := W) q1 (Nat.le_succ _) q2)
        clear q1 q2 fz
        go_wp2
        obtain ⟨y1, y2⟩ := HZ.out _ rfl
        exact bodyPost_ret (Sn.results_cell_tmp (p := 2) (q := 3) rfl _ _ (w.heap.size + 1) _ _ _ _ rfl y1 Tryd.underlying28 rfl sz28) rfl (HP.out _ _ _ _ _ _ _ _ _ _ _ _ _ _ _ _ _ _ y2 (fun e => by cases e))

end Go.Proofs.YtjngknnkffbnmaaDoor
