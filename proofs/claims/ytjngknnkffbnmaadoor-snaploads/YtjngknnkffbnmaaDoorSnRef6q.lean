/-
  Layer 19: the reference's FromEntry, walked.
-/
import Derived.Test.YtjngknnkffbnmaaDoorSnRef5q
import Derived.Test.YtjngknnkffbnmaaDoorGC1
namespace Go.Proofs.YtjngknnkffbnmaaDoor
set_option maxRecDepth 100000
open Go.RowKit Crc Sn

namespace Sn
theorem fieldN (k : Int) (n : Nat) (s : ByteArray) (u : Value) (w : World) : Sem.run Tryd.prog (Instr.field 26 (.agg #[.int .i64 k, .int .u64 n, .string s, u]) 1) w = .ok (.int .u64 n) w := by kernel_rfl
theorem fieldS (k : Int) (n : Nat) (s : ByteArray) (u : Value) (w : World) : Sem.run Tryd.prog (Instr.field 26 (.agg #[.int .i64 k, .int .u64 n, .string s, u]) 2) w = .ok (.string s) w := by kernel_rfl
theorem crS {w : World} {t : Tr} {v : Value} (h : CR w t v) : t.s.size ≤ 9223372036854775807 := by
  cases h using CR.elim with
  | mk k n s ts a cap ks ns ss us hk hn hs => exact hs
/-- What entry a tree may be. -/
def kdT (t : Tr) : Int := if (atT t 1).n ≤ 2 then ((atT t 1).n : Int) else 9
def readE (t : Tr) : Ent := ⟨(atT t 0).n, kdT t, if kdT t = 1 then (atT t 2).s else nob, if kdT t = 2 then numsL (atT t 2) else []⟩
def feO (t : Tr) : Bool := decide (entE (readE t) = 0) && sameT (entT (readE t)) t
def zE : Ent := ⟨0, 0, nob, []⟩
/-- What FromEntry tells. -/
def FeP (w : World) (z : Ent) (E : Int) (e : Ending) (w' : World) : Prop := ∃ u, e = .returned (.tuple #[.agg #[.int .u64 z.tm, .int .i64 z.kd, .string z.dt, u], .int .i64 E]) ∧ NR w' u z.ms ∧ Below w.heap.size w w'
def FeR (w : World) (t : Tr) (e : Ending) (w' : World) : Prop := FeP w (if feO t = true then readE t else zE) (if feO t = true then 0 else 4) e w'
theorem nr_nil (w : World) : NR w (.slice none 0 0) [] := ⟨⟨none, 0, rfl, Nat.le_refl _, by decide, fun _ => ⟨rfl, rfl⟩, fun x e => by cases e⟩⟩
theorem sz46 : (Tryd.prog.info? 46).map (fun i => i.size) = some 4 := by kernel_rfl
theorem NR.setc {w : World} {v : Value} {l : List Int} {b : Nat} (h : NR w v l) (hb : ∀ k, v.ownBlock = some k → k ≠ b) (j : Nat) (u : Value) : NR (w.setCell ⟨b, j, none⟩ u) v l := by
  obtain ⟨a, cap, h1, h2, h3, h4, h5⟩ := h.form
  refine ⟨⟨a, cap, h1, h2, h3, h4, fun x hx => ⟨(h5 x hx).1, fun i hi => ?_⟩⟩⟩
  refine (World.cell?_of_block (w := w) (a := ⟨x.block, x.off + i, none⟩) (heap_setCell_other _ _ _ _ ?_)).trans ((h5 x hx).2 i hi)
  exact hb x.block (by rw [h1, hx]; rfl)
theorem fe_zero {w W wk : World} {b : Nat} {x0 x1 x2 x3 : Value} (hblk : wk.heap[b]? = some (.cells #[x0, x1, x2, x3] 46 (0, 0))) (hb : w.heap.size ≤ b) (hB : Below w.heap.size w wk)
    (hW : W = (((wk.setCell ⟨b, 0, none⟩ (.int .u64 (0 : Nat))).setCell ⟨b, 1, none⟩ (.int .i64 0)).setCell ⟨b, 2, none⟩ (.string nob)).setCell ⟨b, 3, none⟩ (.slice none 0 0)) :
    W.heap[b]? = some (.cells #[.int .u64 (0 : Nat), .int .i64 0, .string nob, .slice none 0 0] 46 (0, 0)) ∧ FeP w zE 4 (.returned (.tuple #[.agg #[.int .u64 (0 : Nat), .int .i64 0, .string nob, .slice none 0 0], .int .i64 4])) W := by
  subst hW
  exact ⟨set4_block hblk _ _ _ _, _, rfl, nr_nil _, set4_below hB hb _ _ _ _⟩
theorem fe_good {w W wk : World} {b : Nat} {x : Ent} {u x0 x1 x2 x3 : Value} (hblk : wk.heap[b]? = some (.cells #[x0, x1, x2, x3] 46 (0, 0))) (hb : w.heap.size ≤ b) (hB : Below w.heap.size w wk) (hn : NR wk u x.ms) (hu : 0 < x.ms.length → ∀ k, u.ownBlock = some k → k ≠ b)
    (hW : W = (((wk.setCell ⟨b, 0, none⟩ (.int .u64 x.tm)).setCell ⟨b, 1, none⟩ (.int .i64 x.kd)).setCell ⟨b, 2, none⟩ (.string x.dt)).setCell ⟨b, 3, none⟩ u) :
    W.heap[b]? = some (.cells #[.int .u64 x.tm, .int .i64 x.kd, .string x.dt, u] 46 (0, 0)) ∧ FeP w x 0 (.returned (.tuple #[.agg #[.int .u64 x.tm, .int .i64 x.kd, .string x.dt, u], .int .i64 0])) W := by
  subst hW
  refine ⟨set4_block hblk _ _ _ _, _, rfl, ?_, set4_below hB hb _ _ _ _⟩
  obtain ⟨a, cap, h1, h2, h3, h4, h5⟩ := hn.form
  refine ⟨⟨a, cap, h1, h2, h3, h4, fun y hy => ⟨(h5 y hy).1, fun i hi => ?_⟩⟩⟩
  refine (World.cell?_of_block (w := wk) (a := ⟨y.block, y.off + i, none⟩) (set4_other ?_ _ _ _ _)).trans ((h5 y hy).2 i hi)
  exact hu (by omega) y.block (by rw [h1, hy]; rfl)
end Sn

set_option maxHeartbeats 16000000 in
theorem rFromEntry_any (t : Tr) (v : Value) (w : World) (h : CR w t v) (hlen : (atT t 2).l.length ≤ 1000000) :
    Calls Tryd.prog 22 #[v] w (FeR w t) := by
  obtain ⟨b0, c0, hr0, hp0⟩ := rpart_any t v w h 0
  obtain ⟨b1, c1, hr1, hp1⟩ := rpart_any t v w h 1
  obtain ⟨b2, c2, hr2, hp2⟩ := rpart_any t v w h 2
  have HC := hide_p h
  have hn0 := crN hr0
  have hs2 := crS hr2
  have hdef : readE t = ⟨(atT t 0).n, kdT t, if kdT t = 1 then (atT t 2).s else nob, if kdT t = 2 then numsL (atT t 2) else []⟩ := rfl
  have hkd : kdT t = if (atT t 1).n ≤ 2 then ((atT t 1).n : Int) else 9 := rfl
  have hnl : (numsL (atT t 2)).length ≤ 1000000 := by unfold numsL; split <;> simp; exact hlen
  have HNU : Hid (∀ w', Below w.heap.size w w' → Calls Tryd.prog 41 #[cellV (atT t 2).k (atT t 2).n (atT t 2).s (.slice b2 (atT t 2).l.length c2)] w' fun e w'' => ∃ u, e = .returned u ∧ NO w'' w'.heap.size u (numsL (atT t 2)) ∧ Below w'.heap.size w' w'') := fun w' hb => rnumbers_any (atT t 2) _ w' (hr2.kept hb (Nat.le_refl _)) hlen
  obtain ⟨R, hR⟩ : ∃ R, R = FeR w t := ⟨_, rfl⟩
  rw [← hR]
  have HRZ : Hid (¬ entE (readE t) = 0 ∨ sameT (entT (readE t)) t = false → ∀ e w', FeP w zE 4 e w' → R e w') := by
    intro ho e w' hp
    have : feO t = false := by
      unfold feO
      rcases ho with ho | ho
      · simp [ho]
      · simp [ho]
    rw [hR]
    unfold FeR
    rw [this]
    exact hp
  have HRG : Hid (entE (readE t) = 0 → sameT (entT (readE t)) t = true → ∀ e w', FeP w (readE t) 0 e w' → R e w') := by
    intro h1 h2 e w' hp
    have : feO t = true := by unfold feO; simp [h1, h2]
    rw [hR]
    unfold FeR
    rw [this]
    exact hp
  have HEC : Hid (∀ (x : Ent) (u : Value) w', readE t = x → NR w' u x.ms → Calls Tryd.prog 18 #[.agg #[.int .u64 x.tm, .int .i64 x.kd, .string x.dt, u]] w' (EcR w' x)) := by
    intro x u w' e hn
    have h1 : x.tm < 18446744073709551616 := by rw [← e, hdef]; exact hn0
    have h2 : x.dt.size ≤ 9223372036854775807 := by
      rw [← e, hdef]
      show (if kdT t = 1 then (atT t 2).s else nob).size ≤ _
      split
      · exact hs2
      · decide
    have h3 : x.ms.length ≤ 1000000 := by
      rw [← e, hdef]
      show (if kdT t = 2 then numsL (atT t 2) else []).length ≤ _
      split
      · exact hnl
      · simp
    exact rEntryCell_any x u w' hn h1 h2 h3
  have HSM : Hid (∀ (x : Ent) u w', readE t = x → CR w' (entT x) u → Below w.heap.size w w' → Calls Tryd.prog 19 #[u, v] w' fun e w'' => e = .returned (.bool (sameT (entT x) t)) ∧ Below w'.heap.size w' w'') := fun x u w' e hc hb => same_any ((entT x).dep + 1) _ _ _ _ _ (by omega) hc (HC.out.kept hb (Nat.le_refl _))
  obtain ⟨a, cap, rfl⟩ := crShape h
  have HDEF := hide_p hdef
  have HKD := hide_p hkd
  clear h hr0 hr1 hr2 hn0 hs2 hdef hkd hnl hR hlen HC
  generalize kdT t = kd at *
  generalize numsL (atT t 2) = ns at *
  generalize (atT t 0).n = n0 at *
  generalize (atT t 0).k = k0 at *
  generalize (atT t 0).s = s0 at *
  generalize (atT t 0).l.length = m0 at *
  generalize (atT t 1).n = n1 at *
  generalize (atT t 1).k = k1 at *
  generalize (atT t 1).s = s1 at *
  generalize (atT t 1).l.length = m1 at *
  generalize (atT t 2).n = n2 at *
  generalize (atT t 2).k = k2 at *
  generalize (atT t 2).s = s2 at *
  generalize (atT t 2).l.length = m2 at *
  generalize t.k = tk at *
  generalize t.n = tn at *
  generalize t.s = ts at *
  generalize t.l.length = tm at *
  unfold cellV at hp0 hp1 hp2 HNU HSM ⊢
  have HP0 := hide_p hp0
  have HP1 := hide_p hp1
  have HP2 := hide_p hp2
  clear hp0 hp1 hp2
  obtain ⟨w1, hw1⟩ : ∃ w1, w1 = (w.alloc (.cells #[.int .i64 tk, .int .u64 tn, .string ts, .slice a tm cap] 26)).alloc (.cells #[.int .u64 0, .int .i64 0, .string ⟨#[]⟩, .slice none 0 0] 46) := ⟨_, rfl⟩
  have HS1 : Hid (w1.heap.size = w.heap.size + 2) := by show _ = _; rw [hw1]; simp
  have HB1 : Hid (Below w.heap.size w w1) := by show Below _ _ _; rw [hw1]; exact ((Below.refl _ _).alloc (Nat.le_refl _) _).alloc (by simp) _
  have HA1 : Hid (w1.heap[w.heap.size]? = some (.cells #[.int .i64 tk, .int .u64 tn, .string ts, .slice a tm cap] 26 (0, 0)) ∧ w1.heap[w.heap.size + 1]? = some (.cells #[.int .u64 0, .int .i64 0, .string ⟨#[]⟩, .slice none 0 0] 46 (0, 0))) := by
    show _ ∧ _
    rw [hw1]
    exact ⟨by rw [Below.heap_alloc _ _ _ (by simp)]; exact heap_alloc_new _ _, heap_alloc_at _ _ _ (by simp)⟩
  have HX : Hid (∀ wq, Below (w.heap.size + 2) w1 wq → wq.heap[w.heap.size]? = some (.cells #[.int .i64 tk, .int .u64 tn, .string ts, .slice a tm cap] 26 (0, 0)) ∧ wq.heap[w.heap.size + 1]? = some (.cells #[.int .u64 0, .int .i64 0, .string ⟨#[]⟩, .slice none 0 0] 46 (0, 0)) ∧ Below w.heap.size w wq) := by
    intro wq hq
    exact ⟨(hq.block _ (by omega)).trans HA1.out.1, (hq.block _ (by omega)).trans HA1.out.2, HB1.out.trans (hq.mono (by omega))⟩
  obtain ⟨x0, x1, x2, x3⟩ := block4 HA1.out.1
  have hf0 := fieldN k0 n0 s0 (.slice b0 m0 c0)
  have hf1 := fieldN k1 n1 s1 (.slice b1 m1 c1)
  have hf2 := fieldS k2 n2 s2 (.slice b2 m2 c2)
  go_enter Tryd.func22, Tryd.ntmps22
  go_upto_region 1 with fail
  rw [← hw1]
  clear hw1
  go_wp2_with fail
  refine (HP0.out w1 HB1.out).mono ?_
  rintro e w2 ⟨rfl, hb2⟩
  obtain ⟨w3, hw3⟩ : ∃ w3, w3 = w2.alloc (.cells #[.int .u64 n0, .int .i64 9, .string ⟨#[]⟩, .slice none 0 0] 46) := ⟨_, rfl⟩
  obtain ⟨be, hbe⟩ : ∃ be, be = w2.heap.size := ⟨_, rfl⟩
  have HBE : Hid (w.heap.size + 2 ≤ be ∧ be < w3.heap.size) := by
    have h1 := hb2.size
    have h2 := HS1.out
    refine ⟨by omega, ?_⟩
    rw [hw3, hbe]
    simp
  have HE3 : Hid (w3.heap[be]? = some (.cells #[.int .u64 n0, .int .i64 9, .string nob, .slice none 0 0] 46 (0, 0))) := by
    show _ = _
    rw [hw3, hbe]
    exact heap_alloc_new _ _
  have HB3 : Hid (Below (w.heap.size + 2) w1 w3) := by
    have h2 := HS1.out
    rw [hw3]
    exact (hb2.mono (by omega)).alloc (by have := hb2.size; omega) _
  clear x0 x1 x2 x3 hb2
  go_upto_region 2 with fail
  rw [← hw3, ← hbe]
  clear hw3 hbe
  obtain ⟨x0, x1, x2, x3⟩ := block4 (HX.out w3 HB3.out).1
  go_wp2_with fail
  refine (HP1.out w3 (HX.out w3 HB3.out).2.2).mono ?_
  rintro e w4 ⟨rfl, hb4⟩
  have HB4 : Hid (Below (w.heap.size + 2) w1 w4) := HB3.out.trans (hb4.mono (by have := HBE.out; omega))
  have HE4 : Hid (w4.heap[be]? = some (.cells #[.int .u64 n0, .int .i64 9, .string nob, .slice none 0 0] 46 (0, 0))) := (hb4.block be HBE.out.2).trans HE3.out
  have HL4 : Hid (be < w4.heap.size) := Nat.lt_of_lt_of_le HBE.out.2 hb4.size
  clear x0 x1 x2 x3 hb4
  by_cases hn : n1 ≤ 2
  · have hn' : (n1 : Int) ≤ 2 := by omega
    have hk : kd = (n1 : Int) := by rw [HKD.out, if_pos hn]
    obtain ⟨p0, p1, p2, p3⟩ := block4 HE4.out
    have fe := Lib.frozen_of_heap HE4.out
    have fe1 := fe 1
    have HE5 : Hid ((w4.setCell ⟨be, 1, none⟩ (.int .i64 (n1 : Int))).heap[be]? = some (.cells #[.int .u64 n0, .int .i64 (n1 : Int), .string nob, .slice none 0 0] 46 (0, 0))) := heap_setCell_same _ _ 1 _ _ _ HE4.out
    have HB5 : Hid (Below (w.heap.size + 2) w1 (w4.setCell ⟨be, 1, none⟩ (.int .i64 (n1 : Int)))) := HB4.out.setCell (p := ⟨be, 1, none⟩) HBE.out.1 _
    obtain ⟨w5, hw5⟩ : ∃ w5, w5 = w4.setCell ⟨be, 1, none⟩ (.int .i64 (n1 : Int)) := ⟨_, rfl⟩
    rw [← hw5] at HE5 HB5
    have HL5 : Hid (be < w5.heap.size) := by show _ < _; rw [hw5, World.size_setCell]; exact HL4.out
    go_upto_region 5 with fail
    rw [← hw5]
    clear hw5 p0 p1 p2 p3 fe fe1
    have h012 : n1 = 0 ∨ n1 = 1 ∨ n1 = 2 := by omega
    rcases h012 with rfl | rfl | rfl
    · have hx : readE t = ⟨n0, 0, nob, []⟩ := by rw [HDEF.out, hk]; rfl
      have HEx : Hid (w5.heap[be]? = some (.cells #[.int .u64 n0, .int .i64 0, .string nob, .slice none 0 0] 46 (0, 0))) := HE5.out
      have HBx := HB5
      have HLx := HL5
      have HNR := hide_p (nr_nil w5)
      obtain ⟨p0, p1, p2, p3⟩ := block4 HEx.out
      go_upto_region 9 with fail
      clear p0 p1 p2 p3
      obtain ⟨p0, p1, p2, p3⟩ := block4 HEx.out
      have HX9 := hide_p hx
      go_wp2_with fail
      refine (HEC.out ⟨n0, 0, nob, []⟩ (.slice none 0 0) w5 hx HNR.out).mono ?_
      rintro e w10 ⟨u, rfl, hcu, hb10⟩
      have HB10 : Hid (Below (w.heap.size + 2) w1 w10) := HBx.out.trans (hb10.mono (by have := HBx.out.size; have := HS1.out; omega))
      have HE10 := hide_p ((hb10.block be HLx.out).trans HEx.out)
      have HN10 := hide_p (NR.kept HNR.out hb10 (Nat.le_refl _))
      have HL10 : Hid (be < w10.heap.size) := Nat.lt_of_lt_of_le HLx.out hb10.size
      obtain ⟨k9, n9, s9, a9, m9, c9, rfl⟩ := hcu.form
      have HCU := hide_p hcu.cr
      clear hcu hb10 p0 p1 p2 p3
      unfold cellV at HCU ⊢
      obtain ⟨w11, hw11⟩ : ∃ w11, w11 = w10.alloc (.cells #[.int .i64 k9, .int .u64 n9, .string s9, .slice a9 m9 c9] 26) := ⟨_, rfl⟩
      obtain ⟨b11, hb11⟩ : ∃ b11, b11 = w10.heap.size := ⟨_, rfl⟩
      have HA11 : Hid (Below w10.heap.size w10 w11 ∧ w11.heap[b11]? = some (.cells #[.int .i64 k9, .int .u64 n9, .string s9, .slice a9 m9 c9] 26 (0, 0))) := by
        show _ ∧ _
        rw [hw11, hb11]
        exact ⟨(Below.refl _ _).alloc (Nat.le_refl _) _, heap_alloc_new _ _⟩
      have HB11 : Hid (Below (w.heap.size + 2) w1 w11) := HB10.out.trans (HA11.out.1.mono (by have := HB10.out.size; have := HS1.out; omega))
      go_upto_region 10 with fail
      rw [← hw11, ← hb11]
      clear hw11 hb11
      obtain ⟨E, hE⟩ : ∃ E, E = entE ⟨n0, 0, nob, []⟩ := ⟨_, rfl⟩
      rw [← hE]
      by_cases ce : E = 0
      · subst ce
        have HE0 := hide_p hE
        have hcr11 := HCU.out.kept HA11.out.1 (Nat.le_refl _)
        obtain ⟨p0, p1, p2, p3⟩ := block4 HA11.out.2
        obtain ⟨x0, x1, x2, x3⟩ := block4 (HX.out w11 HB11.out).1
        have hsm := HSM.out _ _ w11 hx hcr11 (HX.out w11 HB11.out).2.2
        obtain ⟨S, hS⟩ : ∃ S, S = sameT (entT ⟨n0, 0, nob, []⟩) t := ⟨_, rfl⟩
        rw [← hS] at hsm
        have HSS := hide_p hS
        clear hcr11 hE hS hx
        go_wp2_with fail
        refine hsm.mono ?_
        rintro e w12 ⟨rfl, hb12⟩
        have HB12 : Hid (Below (w.heap.size + 2) w1 w12) := HB11.out.trans (hb12.mono (by have := HB11.out.size; have := HS1.out; omega))
        have HE12 := hide_p ((hb12.block be (Nat.lt_of_lt_of_le HL10.out HA11.out.1.size)).trans ((HA11.out.1.block be HL10.out).trans HE10.out))
        have HN12 := hide_p (NR.kept (NR.kept HN10.out HA11.out.1 (Nat.le_refl _)) hb12 (Nat.le_refl _))
        clear hsm hb12 p0 p1 p2 p3 x0 x1 x2 x3
        cases S with
        | false =>
          obtain ⟨-, q1, q2⟩ := HX.out w12 HB12.out
          obtain ⟨r0, r1, r2, r3⟩ := block4 q1
          have fz := Lib.frozen_of_heap q1
          have f0 := fz 0
          have f1 := fz 1
          have f2 := fz 2
          have f3 := fz 3
          have HZ := hide_p (fun W => fe_zero (W := W) q1 (Nat.le_succ _) q2)
          have HW := hide_p (HRZ.out (Or.inr (by rw [HX9.out]; exact HSS.out.symm)))
          clear q1 q2 fz HRZ HRG HEC HSM
          go_wp2
          obtain ⟨y1, y2⟩ := HZ.out _ rfl
          exact bodyPost_ret (Sn.results_cell_tmp (p := 2) (q := 3) rfl _ _ (w.heap.size + 1) _ _ _ _ rfl y1 Tryd.underlying46 rfl sz46) rfl (HW.out _ _ y2)
        | true =>
          obtain ⟨-, q1, q2⟩ := HX.out w12 HB12.out
          obtain ⟨r0, r1, r2, r3⟩ := block4 q1
          have fz := Lib.frozen_of_heap q1
          have f0 := fz 0
          have f1 := fz 1
          have f2 := fz 2
          have f3 := fz 3
          obtain ⟨p0, p1, p2, p3⟩ := block4 HE12.out
          have HG := hide_p (fun W => fe_good (W := W) (x := ⟨n0, 0, nob, []⟩) q1 (Nat.le_succ _) q2 HN12.out (fun h => absurd h (Nat.lt_irrefl 0)))
          have HW := hide_p (HRG.out (by rw [HX9.out]; exact HE0.out.symm) (by rw [HX9.out]; exact HSS.out.symm))
          have HX8 := hide_p (fun e w' (hp : FeP w ⟨n0, 0, nob, []⟩ 0 e w') => HW.out e w' (by rw [HX9.out]; exact hp))
          clear q1 q2 fz HRZ HRG HEC HSM HW
          go_wp2
          obtain ⟨y1, y2⟩ := HG.out _ rfl
          exact bodyPost_ret (Sn.results_cell_tmp (p := 2) (q := 3) rfl _ _ (w.heap.size + 1) _ _ _ _ rfl y1 Tryd.underlying46 rfl sz46) rfl (HX8.out _ _ y2)
      · have ce2 : (E != 0) = true := by simpa using ce
        have HE0 := hide_p hE
        clear hE hx
        obtain ⟨-, q1, q2⟩ := HX.out w11 HB11.out
        obtain ⟨r0, r1, r2, r3⟩ := block4 q1
        have fz := Lib.frozen_of_heap q1
        have f0 := fz 0
        have f1 := fz 1
        have f2 := fz 2
        have f3 := fz 3
        have HZ := hide_p (fun W => fe_zero (W := W) q1 (Nat.le_succ _) q2)
        have HW := hide_p (HRZ.out (Or.inl (by rw [HX9.out, ← HE0.out]; exact ce)))
        clear q1 q2 fz HRZ HRG HEC HSM
        go_wp2
        obtain ⟨y1, y2⟩ := HZ.out _ rfl
        exact bodyPost_ret (Sn.results_cell_tmp (p := 2) (q := 3) rfl _ _ (w.heap.size + 1) _ _ _ _ rfl y1 Tryd.underlying46 rfl sz46) rfl (HW.out _ _ y2)
    · have hx : readE t = ⟨n0, 1, s2, []⟩ := by rw [HDEF.out, hk]; rfl
      have HE5' : Hid (w5.heap[be]? = some (.cells #[.int .u64 n0, .int .i64 1, .string nob, .slice none 0 0] 46 (0, 0))) := HE5.out
      obtain ⟨p0, p1, p2, p3⟩ := block4 HE5'.out
      obtain ⟨x0, x1, x2, x3⟩ := block4 (HX.out w5 HB5.out).1
      go_wp2_with fail
      refine (HP2.out w5 (HX.out w5 HB5.out).2.2).mono ?_
      rintro e w6 ⟨rfl, hb6⟩
      have HE6 := hide_p ((hb6.block be HL5.out).trans HE5'.out)
      have HB6 : Hid (Below (w.heap.size + 2) w1 w6) := HB5.out.trans (hb6.mono (by have := HB5.out.size; have := HS1.out; omega))
      have HL6 : Hid (be < w6.heap.size) := Nat.lt_of_lt_of_le HL5.out hb6.size
      clear p0 p1 p2 p3 x0 x1 x2 x3 hb6
      obtain ⟨p0, p1, p2, p3⟩ := block4 HE6.out
      have fe := Lib.frozen_of_heap HE6.out
      have fe2 := fe 2
      have HE7 : Hid ((w6.setCell ⟨be, 2, none⟩ (.string s2)).heap[be]? = some (.cells #[.int .u64 n0, .int .i64 1, .string s2, .slice none 0 0] 46 (0, 0))) := heap_setCell_same _ _ 2 _ _ _ HE6.out
      have HB7 : Hid (Below (w.heap.size + 2) w1 (w6.setCell ⟨be, 2, none⟩ (.string s2))) := HB6.out.setCell (p := ⟨be, 2, none⟩) HBE.out.1 _
      obtain ⟨w7, hw7⟩ : ∃ w7, w7 = w6.setCell ⟨be, 2, none⟩ (.string s2) := ⟨_, rfl⟩
      rw [← hw7] at HE7 HB7
      have HL7 : Hid (be < w7.heap.size) := by show _ < _; rw [hw7, World.size_setCell]; exact HL6.out
      go_upto_region 7 with fail
      rw [← hw7]
      clear hw7 p0 p1 p2 p3 fe fe2
      obtain ⟨p0, p1, p2, p3⟩ := block4 HE7.out
      have HEx := HE7
      have HBx := HB7
      have HLx := HL7
      have HNR := hide_p (nr_nil w7)
      go_upto_region 9 with fail
      clear p0 p1 p2 p3
      obtain ⟨p0, p1, p2, p3⟩ := block4 HEx.out
      have HX9 := hide_p hx
      go_wp2_with fail
      refine (HEC.out ⟨n0, 1, s2, []⟩ (.slice none 0 0) w7 hx HNR.out).mono ?_
      rintro e w10 ⟨u, rfl, hcu, hb10⟩
      have HB10 : Hid (Below (w.heap.size + 2) w1 w10) := HBx.out.trans (hb10.mono (by have := HBx.out.size; have := HS1.out; omega))
      have HE10 := hide_p ((hb10.block be HLx.out).trans HEx.out)
      have HN10 := hide_p (NR.kept HNR.out hb10 (Nat.le_refl _))
      have HL10 : Hid (be < w10.heap.size) := Nat.lt_of_lt_of_le HLx.out hb10.size
      obtain ⟨k9, n9, s9, a9, m9, c9, rfl⟩ := hcu.form
      have HCU := hide_p hcu.cr
      clear hcu hb10 p0 p1 p2 p3
      unfold cellV at HCU ⊢
      obtain ⟨w11, hw11⟩ : ∃ w11, w11 = w10.alloc (.cells #[.int .i64 k9, .int .u64 n9, .string s9, .slice a9 m9 c9] 26) := ⟨_, rfl⟩
      obtain ⟨b11, hb11⟩ : ∃ b11, b11 = w10.heap.size := ⟨_, rfl⟩
      have HA11 : Hid (Below w10.heap.size w10 w11 ∧ w11.heap[b11]? = some (.cells #[.int .i64 k9, .int .u64 n9, .string s9, .slice a9 m9 c9] 26 (0, 0))) := by
        show _ ∧ _
        rw [hw11, hb11]
        exact ⟨(Below.refl _ _).alloc (Nat.le_refl _) _, heap_alloc_new _ _⟩
      have HB11 : Hid (Below (w.heap.size + 2) w1 w11) := HB10.out.trans (HA11.out.1.mono (by have := HB10.out.size; have := HS1.out; omega))
      go_upto_region 10 with fail
      rw [← hw11, ← hb11]
      clear hw11 hb11
      obtain ⟨E, hE⟩ : ∃ E, E = entE ⟨n0, 1, s2, []⟩ := ⟨_, rfl⟩
      rw [← hE]
      by_cases ce : E = 0
      · subst ce
        have HE0 := hide_p hE
        have hcr11 := HCU.out.kept HA11.out.1 (Nat.le_refl _)
        obtain ⟨p0, p1, p2, p3⟩ := block4 HA11.out.2
        obtain ⟨x0, x1, x2, x3⟩ := block4 (HX.out w11 HB11.out).1
        have hsm := HSM.out _ _ w11 hx hcr11 (HX.out w11 HB11.out).2.2
        obtain ⟨S, hS⟩ : ∃ S, S = sameT (entT ⟨n0, 1, s2, []⟩) t := ⟨_, rfl⟩
        rw [← hS] at hsm
        have HSS := hide_p hS
        clear hcr11 hE hS hx
        go_wp2_with fail
        refine hsm.mono ?_
        rintro e w12 ⟨rfl, hb12⟩
        have HB12 : Hid (Below (w.heap.size + 2) w1 w12) := HB11.out.trans (hb12.mono (by have := HB11.out.size; have := HS1.out; omega))
        have HE12 := hide_p ((hb12.block be (Nat.lt_of_lt_of_le HL10.out HA11.out.1.size)).trans ((HA11.out.1.block be HL10.out).trans HE10.out))
        have HN12 := hide_p (NR.kept (NR.kept HN10.out HA11.out.1 (Nat.le_refl _)) hb12 (Nat.le_refl _))
        clear hsm hb12 p0 p1 p2 p3 x0 x1 x2 x3
        cases S with
        | false =>
          obtain ⟨-, q1, q2⟩ := HX.out w12 HB12.out
          obtain ⟨r0, r1, r2, r3⟩ := block4 q1
          have fz := Lib.frozen_of_heap q1
          have f0 := fz 0
          have f1 := fz 1
          have f2 := fz 2
          have f3 := fz 3
          have HZ := hide_p (fun W => fe_zero (W := W) q1 (Nat.le_succ _) q2)
          have HW := hide_p (HRZ.out (Or.inr (by rw [HX9.out]; exact HSS.out.symm)))
          clear q1 q2 fz HRZ HRG HEC HSM
          go_wp2
          obtain ⟨y1, y2⟩ := HZ.out _ rfl
          exact bodyPost_ret (Sn.results_cell_tmp (p := 2) (q := 3) rfl _ _ (w.heap.size + 1) _ _ _ _ rfl y1 Tryd.underlying46 rfl sz46) rfl (HW.out _ _ y2)
        | true =>
          obtain ⟨-, q1, q2⟩ := HX.out w12 HB12.out
          obtain ⟨r0, r1, r2, r3⟩ := block4 q1
          have fz := Lib.frozen_of_heap q1
          have f0 := fz 0
          have f1 := fz 1
          have f2 := fz 2
          have f3 := fz 3
          obtain ⟨p0, p1, p2, p3⟩ := block4 HE12.out
          have HG := hide_p (fun W => fe_good (W := W) (x := ⟨n0, 1, s2, []⟩) q1 (Nat.le_succ _) q2 HN12.out (fun h => absurd h (Nat.lt_irrefl 0)))
          have HW := hide_p (HRG.out (by rw [HX9.out]; exact HE0.out.symm) (by rw [HX9.out]; exact HSS.out.symm))
          have HX8 := hide_p (fun e w' (hp : FeP w ⟨n0, 1, s2, []⟩ 0 e w') => HW.out e w' (by rw [HX9.out]; exact hp))
          clear q1 q2 fz HRZ HRG HEC HSM HW
          go_wp2
          obtain ⟨y1, y2⟩ := HG.out _ rfl
          exact bodyPost_ret (Sn.results_cell_tmp (p := 2) (q := 3) rfl _ _ (w.heap.size + 1) _ _ _ _ rfl y1 Tryd.underlying46 rfl sz46) rfl (HX8.out _ _ y2)
      · have ce2 : (E != 0) = true := by simpa using ce
        have HE0 := hide_p hE
        clear hE hx
        obtain ⟨-, q1, q2⟩ := HX.out w11 HB11.out
        obtain ⟨r0, r1, r2, r3⟩ := block4 q1
        have fz := Lib.frozen_of_heap q1
        have f0 := fz 0
        have f1 := fz 1
        have f2 := fz 2
        have f3 := fz 3
        have HZ := hide_p (fun W => fe_zero (W := W) q1 (Nat.le_succ _) q2)
        have HW := hide_p (HRZ.out (Or.inl (by rw [HX9.out, ← HE0.out]; exact ce)))
        clear q1 q2 fz HRZ HRG HEC HSM
        go_wp2
        obtain ⟨y1, y2⟩ := HZ.out _ rfl
        exact bodyPost_ret (Sn.results_cell_tmp (p := 2) (q := 3) rfl _ _ (w.heap.size + 1) _ _ _ _ rfl y1 Tryd.underlying46 rfl sz46) rfl (HW.out _ _ y2)
    · have hx : readE t = ⟨n0, 2, nob, ns⟩ := by rw [HDEF.out, hk]; rfl
      have HE5' : Hid (w5.heap[be]? = some (.cells #[.int .u64 n0, .int .i64 2, .string nob, .slice none 0 0] 46 (0, 0))) := HE5.out
      obtain ⟨p0, p1, p2, p3⟩ := block4 HE5'.out
      obtain ⟨x0, x1, x2, x3⟩ := block4 (HX.out w5 HB5.out).1
      go_wp2_with fail
      refine (HP2.out w5 (HX.out w5 HB5.out).2.2).mono ?_
      rintro e w6 ⟨rfl, hb6⟩
      have HE6 := hide_p ((hb6.block be HL5.out).trans HE5'.out)
      have HB6 : Hid (Below (w.heap.size + 2) w1 w6) := HB5.out.trans (hb6.mono (by have := HB5.out.size; have := HS1.out; omega))
      have HL6 : Hid (be < w6.heap.size) := Nat.lt_of_lt_of_le HL5.out hb6.size
      clear p0 p1 p2 p3 x0 x1 x2 x3 hb6
      go_wp2_with fail
      refine (HNU.out w6 (HX.out w6 HB6.out).2.2).mono ?_
      rintro e w7 ⟨u7, rfl, hno, hb7⟩
      have HE7 := hide_p ((hb7.block be HL6.out).trans HE6.out)
      have HB7 : Hid (Below (w.heap.size + 2) w1 w7) := HB6.out.trans (hb7.mono (by have := HB6.out.size; have := HS1.out; omega))
      have HL7 : Hid (be < w7.heap.size) := Nat.lt_of_lt_of_le HL6.out hb7.size
      have HU7 : Hid (∀ k, u7.ownBlock = some k → w6.heap.size ≤ k) := fun k hk => (World.ownsRow.lt hno k hk).1
      have HN7 := hide_p hno.nr
      obtain ⟨a7, c7, rfl⟩ := hno.form
      clear hb7 hno
      obtain ⟨p0, p1, p2, p3⟩ := block4 HE7.out
      have fe := Lib.frozen_of_heap HE7.out
      have fe3 := fe 3
      have HE8 : Hid ((w7.setCell ⟨be, 3, none⟩ (.slice a7 ns.length c7)).heap[be]? = some (.cells #[.int .u64 n0, .int .i64 2, .string nob, .slice a7 ns.length c7] 46 (0, 0))) := heap_setCell_same _ _ 3 _ _ _ HE7.out
      have HB8 : Hid (Below (w.heap.size + 2) w1 (w7.setCell ⟨be, 3, none⟩ (.slice a7 ns.length c7))) := HB7.out.setCell (p := ⟨be, 3, none⟩) HBE.out.1 _
      have HN8 : Hid (NR (w7.setCell ⟨be, 3, none⟩ (.slice a7 ns.length c7)) (.slice a7 ns.length c7) ns) := HN7.out.setc (fun k hk => by have := HU7.out k hk; have := HL6.out; omega) _ _
      have HUX : Hid (∀ k, (Value.slice a7 ns.length c7).ownBlock = some k → k ≠ w.heap.size + 1) := fun k hk => by have := HU7.out k hk; have := HL6.out; have := HBE.out; omega
      obtain ⟨w8, hw8⟩ : ∃ w8, w8 = w7.setCell ⟨be, 3, none⟩ (.slice a7 ns.length c7) := ⟨_, rfl⟩
      rw [← hw8] at HE8 HB8 HN8
      have HL8 : Hid (be < w8.heap.size) := by show _ < _; rw [hw8, World.size_setCell]; exact HL7.out
      have HEx := HE8
      have HBx := HB8
      have HLx := HL8
      have HNR := HN8
      go_upto_region 9 with fail
      rw [← hw8]
      clear hw8 p0 p1 p2 p3 fe fe3
      obtain ⟨p0, p1, p2, p3⟩ := block4 HEx.out
      have HX9 := hide_p hx
      go_wp2_with fail
      refine (HEC.out ⟨n0, 2, nob, ns⟩ (.slice a7 ns.length c7) w8 hx HNR.out).mono ?_
      rintro e w10 ⟨u, rfl, hcu, hb10⟩
      have HB10 : Hid (Below (w.heap.size + 2) w1 w10) := HBx.out.trans (hb10.mono (by have := HBx.out.size; have := HS1.out; omega))
      have HE10 := hide_p ((hb10.block be HLx.out).trans HEx.out)
      have HN10 := hide_p (NR.kept HNR.out hb10 (Nat.le_refl _))
      have HL10 : Hid (be < w10.heap.size) := Nat.lt_of_lt_of_le HLx.out hb10.size
      obtain ⟨k9, n9, s9, a9, m9, c9, rfl⟩ := hcu.form
      have HCU := hide_p hcu.cr
      clear hcu hb10 p0 p1 p2 p3
      unfold cellV at HCU ⊢
      obtain ⟨w11, hw11⟩ : ∃ w11, w11 = w10.alloc (.cells #[.int .i64 k9, .int .u64 n9, .string s9, .slice a9 m9 c9] 26) := ⟨_, rfl⟩
      obtain ⟨b11, hb11⟩ : ∃ b11, b11 = w10.heap.size := ⟨_, rfl⟩
      have HA11 : Hid (Below w10.heap.size w10 w11 ∧ w11.heap[b11]? = some (.cells #[.int .i64 k9, .int .u64 n9, .string s9, .slice a9 m9 c9] 26 (0, 0))) := by
        show _ ∧ _
        rw [hw11, hb11]
        exact ⟨(Below.refl _ _).alloc (Nat.le_refl _) _, heap_alloc_new _ _⟩
      have HB11 : Hid (Below (w.heap.size + 2) w1 w11) := HB10.out.trans (HA11.out.1.mono (by have := HB10.out.size; have := HS1.out; omega))
      go_upto_region 10 with fail
      rw [← hw11, ← hb11]
      clear hw11 hb11
      obtain ⟨E, hE⟩ : ∃ E, E = entE ⟨n0, 2, nob, ns⟩ := ⟨_, rfl⟩
      rw [← hE]
      by_cases ce : E = 0
      · subst ce
        have HE0 := hide_p hE
        have hcr11 := HCU.out.kept HA11.out.1 (Nat.le_refl _)
        obtain ⟨p0, p1, p2, p3⟩ := block4 HA11.out.2
        obtain ⟨x0, x1, x2, x3⟩ := block4 (HX.out w11 HB11.out).1
        have hsm := HSM.out _ _ w11 hx hcr11 (HX.out w11 HB11.out).2.2
        obtain ⟨S, hS⟩ : ∃ S, S = sameT (entT ⟨n0, 2, nob, ns⟩) t := ⟨_, rfl⟩
        rw [← hS] at hsm
        have HSS := hide_p hS
        clear hcr11 hE hS hx
        go_wp2_with fail
        refine hsm.mono ?_
        rintro e w12 ⟨rfl, hb12⟩
        have HB12 : Hid (Below (w.heap.size + 2) w1 w12) := HB11.out.trans (hb12.mono (by have := HB11.out.size; have := HS1.out; omega))
        have HE12 := hide_p ((hb12.block be (Nat.lt_of_lt_of_le HL10.out HA11.out.1.size)).trans ((HA11.out.1.block be HL10.out).trans HE10.out))
        have HN12 := hide_p (NR.kept (NR.kept HN10.out HA11.out.1 (Nat.le_refl _)) hb12 (Nat.le_refl _))
        clear hsm hb12 p0 p1 p2 p3 x0 x1 x2 x3
        cases S with
        | false =>
          obtain ⟨-, q1, q2⟩ := HX.out w12 HB12.out
          obtain ⟨r0, r1, r2, r3⟩ := block4 q1
          have fz := Lib.frozen_of_heap q1
          have f0 := fz 0
          have f1 := fz 1
          have f2 := fz 2
          have f3 := fz 3
          have HZ := hide_p (fun W => fe_zero (W := W) q1 (Nat.le_succ _) q2)
          have HW := hide_p (HRZ.out (Or.inr (by rw [HX9.out]; exact HSS.out.symm)))
          clear q1 q2 fz HRZ HRG HEC HSM
          go_wp2
          obtain ⟨y1, y2⟩ := HZ.out _ rfl
          exact bodyPost_ret (Sn.results_cell_tmp (p := 2) (q := 3) rfl _ _ (w.heap.size + 1) _ _ _ _ rfl y1 Tryd.underlying46 rfl sz46) rfl (HW.out _ _ y2)
        | true =>
          obtain ⟨-, q1, q2⟩ := HX.out w12 HB12.out
          obtain ⟨r0, r1, r2, r3⟩ := block4 q1
          have fz := Lib.frozen_of_heap q1
          have f0 := fz 0
          have f1 := fz 1
          have f2 := fz 2
          have f3 := fz 3
          obtain ⟨p0, p1, p2, p3⟩ := block4 HE12.out
          have HG := hide_p (fun W => fe_good (W := W) (x := ⟨n0, 2, nob, ns⟩) q1 (Nat.le_succ _) q2 HN12.out (fun _ => HUX.out))
          have HW := hide_p (HRG.out (by rw [HX9.out]; exact HE0.out.symm) (by rw [HX9.out]; exact HSS.out.symm))
          have HX8 := hide_p (fun e w' (hp : FeP w ⟨n0, 2, nob, ns⟩ 0 e w') => HW.out e w' (by rw [HX9.out]; exact hp))
          clear q1 q2 fz HRZ HRG HEC HSM HW
          go_wp2
          obtain ⟨y1, y2⟩ := HG.out _ rfl
          exact bodyPost_ret (Sn.results_cell_tmp (p := 2) (q := 3) rfl _ _ (w.heap.size + 1) _ _ _ _ rfl y1 Tryd.underlying46 rfl sz46) rfl (HX8.out _ _ y2)
      · have ce2 : (E != 0) = true := by simpa using ce
        have HE0 := hide_p hE
        clear hE hx
        obtain ⟨-, q1, q2⟩ := HX.out w11 HB11.out
        obtain ⟨r0, r1, r2, r3⟩ := block4 q1
        have fz := Lib.frozen_of_heap q1
        have f0 := fz 0
        have f1 := fz 1
        have f2 := fz 2
        have f3 := fz 3
        have HZ := hide_p (fun W => fe_zero (W := W) q1 (Nat.le_succ _) q2)
        have HW := hide_p (HRZ.out (Or.inl (by rw [HX9.out, ← HE0.out]; exact ce)))
        clear q1 q2 fz HRZ HRG HEC HSM
        go_wp2
        obtain ⟨y1, y2⟩ := HZ.out _ rfl
        exact bodyPost_ret (Sn.results_cell_tmp (p := 2) (q := 3) rfl _ _ (w.heap.size + 1) _ _ _ _ rfl y1 Tryd.underlying46 rfl sz46) rfl (HW.out _ _ y2)
  · have hn' : ¬ (n1 : Int) ≤ 2 := by omega
    have hk : kd = 9 := by rw [HKD.out, if_neg hn]
    have hx : readE t = ⟨n0, 9, nob, []⟩ := by rw [HDEF.out, hk]; rfl
    have HEx := HE4
    have HBx := HB4
    have HLx := HL4
    have HNR := hide_p (nr_nil w4)
    obtain ⟨p0, p1, p2, p3⟩ := block4 HEx.out
    go_upto_region 9 with fail
    clear p0 p1 p2 p3
    obtain ⟨p0, p1, p2, p3⟩ := block4 HEx.out
    have HX9 := hide_p hx
    go_wp2_with fail
    refine (HEC.out ⟨n0, 9, nob, []⟩ (.slice none 0 0) w4 hx HNR.out).mono ?_
    rintro e w10 ⟨u, rfl, hcu, hb10⟩
    have HB10 : Hid (Below (w.heap.size + 2) w1 w10) := HBx.out.trans (hb10.mono (by have := HBx.out.size; have := HS1.out; omega))
    have HE10 := hide_p ((hb10.block be HLx.out).trans HEx.out)
    have HN10 := hide_p (NR.kept HNR.out hb10 (Nat.le_refl _))
    have HL10 : Hid (be < w10.heap.size) := Nat.lt_of_lt_of_le HLx.out hb10.size
    obtain ⟨k9, n9, s9, a9, m9, c9, rfl⟩ := hcu.form
    have HCU := hide_p hcu.cr
    clear hcu hb10 p0 p1 p2 p3
    unfold cellV at HCU ⊢
    obtain ⟨w11, hw11⟩ : ∃ w11, w11 = w10.alloc (.cells #[.int .i64 k9, .int .u64 n9, .string s9, .slice a9 m9 c9] 26) := ⟨_, rfl⟩
    obtain ⟨b11, hb11⟩ : ∃ b11, b11 = w10.heap.size := ⟨_, rfl⟩
    have HA11 : Hid (Below w10.heap.size w10 w11 ∧ w11.heap[b11]? = some (.cells #[.int .i64 k9, .int .u64 n9, .string s9, .slice a9 m9 c9] 26 (0, 0))) := by
      show _ ∧ _
      rw [hw11, hb11]
      exact ⟨(Below.refl _ _).alloc (Nat.le_refl _) _, heap_alloc_new _ _⟩
    have HB11 : Hid (Below (w.heap.size + 2) w1 w11) := HB10.out.trans (HA11.out.1.mono (by have := HB10.out.size; have := HS1.out; omega))
    go_upto_region 10 with fail
    rw [← hw11, ← hb11]
    clear hw11 hb11
    obtain ⟨E, hE⟩ : ∃ E, E = entE ⟨n0, 9, nob, []⟩ := ⟨_, rfl⟩
    rw [← hE]
    by_cases ce : E = 0
    · subst ce
      have HE0 := hide_p hE
      have hcr11 := HCU.out.kept HA11.out.1 (Nat.le_refl _)
      obtain ⟨p0, p1, p2, p3⟩ := block4 HA11.out.2
      obtain ⟨x0, x1, x2, x3⟩ := block4 (HX.out w11 HB11.out).1
      have hsm := HSM.out _ _ w11 hx hcr11 (HX.out w11 HB11.out).2.2
      obtain ⟨S, hS⟩ : ∃ S, S = sameT (entT ⟨n0, 9, nob, []⟩) t := ⟨_, rfl⟩
      rw [← hS] at hsm
      have HSS := hide_p hS
      clear hcr11 hE hS hx
      go_wp2_with fail
      refine hsm.mono ?_
      rintro e w12 ⟨rfl, hb12⟩
      have HB12 : Hid (Below (w.heap.size + 2) w1 w12) := HB11.out.trans (hb12.mono (by have := HB11.out.size; have := HS1.out; omega))
      have HE12 := hide_p ((hb12.block be (Nat.lt_of_lt_of_le HL10.out HA11.out.1.size)).trans ((HA11.out.1.block be HL10.out).trans HE10.out))
      have HN12 := hide_p (NR.kept (NR.kept HN10.out HA11.out.1 (Nat.le_refl _)) hb12 (Nat.le_refl _))
      clear hsm hb12 p0 p1 p2 p3 x0 x1 x2 x3
      cases S with
      | false =>
        obtain ⟨-, q1, q2⟩ := HX.out w12 HB12.out
        obtain ⟨r0, r1, r2, r3⟩ := block4 q1
        have fz := Lib.frozen_of_heap q1
        have f0 := fz 0
        have f1 := fz 1
        have f2 := fz 2
        have f3 := fz 3
        have HZ := hide_p (fun W => fe_zero (W := W) q1 (Nat.le_succ _) q2)
        have HW := hide_p (HRZ.out (Or.inr (by rw [HX9.out]; exact HSS.out.symm)))
        clear q1 q2 fz HRZ HRG HEC HSM
        go_wp2
        obtain ⟨y1, y2⟩ := HZ.out _ rfl
        exact bodyPost_ret (Sn.results_cell_tmp (p := 2) (q := 3) rfl _ _ (w.heap.size + 1) _ _ _ _ rfl y1 Tryd.underlying46 rfl sz46) rfl (HW.out _ _ y2)
      | true =>
        obtain ⟨-, q1, q2⟩ := HX.out w12 HB12.out
        obtain ⟨r0, r1, r2, r3⟩ := block4 q1
        have fz := Lib.frozen_of_heap q1
        have f0 := fz 0
        have f1 := fz 1
        have f2 := fz 2
        have f3 := fz 3
        obtain ⟨p0, p1, p2, p3⟩ := block4 HE12.out
        have HG := hide_p (fun W => fe_good (W := W) (x := ⟨n0, 9, nob, []⟩) q1 (Nat.le_succ _) q2 HN12.out (fun h => absurd h (Nat.lt_irrefl 0)))
        have HW := hide_p (HRG.out (by rw [HX9.out]; exact HE0.out.symm) (by rw [HX9.out]; exact HSS.out.symm))
        have HX8 := hide_p (fun e w' (hp : FeP w ⟨n0, 9, nob, []⟩ 0 e w') => HW.out e w' (by rw [HX9.out]; exact hp))
        clear q1 q2 fz HRZ HRG HEC HSM HW
        go_wp2
        obtain ⟨y1, y2⟩ := HG.out _ rfl
        exact bodyPost_ret (Sn.results_cell_tmp (p := 2) (q := 3) rfl _ _ (w.heap.size + 1) _ _ _ _ rfl y1 Tryd.underlying46 rfl sz46) rfl (HX8.out _ _ y2)
    · have ce2 : (E != 0) = true := by simpa using ce
      have HE0 := hide_p hE
      clear hE hx
      obtain ⟨-, q1, q2⟩ := HX.out w11 HB11.out
      obtain ⟨r0, r1, r2, r3⟩ := block4 q1
      have fz := Lib.frozen_of_heap q1
      have f0 := fz 0
      have f1 := fz 1
      have f2 := fz 2
      have f3 := fz 3
      have HZ := hide_p (fun W => fe_zero (W := W) q1 (Nat.le_succ _) q2)
      have HW := hide_p (HRZ.out (Or.inl (by rw [HX9.out, ← HE0.out]; exact ce)))
      clear q1 q2 fz HRZ HRG HEC HSM
      go_wp2
      obtain ⟨y1, y2⟩ := HZ.out _ rfl
      exact bodyPost_ret (Sn.results_cell_tmp (p := 2) (q := 3) rfl _ _ (w.heap.size + 1) _ _ _ _ rfl y1 Tryd.underlying46 rfl sz46) rfl (HW.out _ _ y2)

end Go.Proofs.YtjngknnkffbnmaaDoor
