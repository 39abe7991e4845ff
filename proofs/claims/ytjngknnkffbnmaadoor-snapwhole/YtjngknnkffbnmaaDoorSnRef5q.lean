/-
  Layer 19: the reference's Same of entries, walked.
-/
import Derived.Test.YtjngknnkffbnmaaDoorSnRef4q
namespace Go.Proofs.YtjngknnkffbnmaaDoor
set_option maxRecDepth 100000
open Go.RowKit Crc Sn

namespace Sn
/-- Whether two entries are one. -/
def sameE (x y : Ent) : Bool := decide (x.tm = y.tm) && decide (x.kd = y.kd) && (x.dt.toList == y.dt.toList) && decide (x.ms = y.ms)
theorem blockOf4 {w : World} {b : Nat} {T : TypeId} {x0 x1 x2 x3 : Value} (h : w.heap[b]? = some (.cells #[x0, x1, x2, x3] T (0, 0))) {w' : World} (hb : Below w.heap.size w w') : w'.cell? ⟨b, 0, none⟩ = some x0 ∧ w'.cell? ⟨b, 1, none⟩ = some x1 ∧ w'.cell? ⟨b, 2, none⟩ = some x2 ∧ w'.cell? ⟨b, 3, none⟩ = some x3 := by
  have hlt : b < w.heap.size := by
    rcases Nat.lt_or_ge b w.heap.size with h1 | h1
    · exact h1
    · rw [Array.getElem?_eq_none h1] at h; cases h
  exact block4 ((hb.block b hlt).trans h)
theorem take_eq_ext {l m : List Int} {i : Nat} (h : l.take i = m.take i) (h1 : i < l.length) (h2 : i < m.length) (e : l[i] = m[i]) : l.take (i + 1) = m.take (i + 1) := by
  rw [List.take_succ_eq_append_getElem h1, List.take_succ_eq_append_getElem h2, h, e]
end Sn

set_option maxHeartbeats 4000000 in
theorem rsameE_any (x y : Ent) (v u : Value) (w : World) (hx : NR w v x.ms) (hy : NR w u y.ms) (hl : x.ms.length ≤ 1000000000) :
    Calls Tryd.prog 23 #[.agg #[.int .u64 x.tm, .int .i64 x.kd, .string x.dt, v], .agg #[.int .u64 y.tm, .int .i64 y.kd, .string y.dt, u]] w fun e w' => e = .returned (.bool (sameE x y)) ∧ Below w.heap.size w w' := by
  obtain ⟨tm, kd, dt, ms⟩ := x
  obtain ⟨tm', kd', dt', ms'⟩ := y
  simp only at hx hy hl ⊢
  obtain ⟨a, ca, rfl, ha1, ha2, -, -⟩ := hx.form
  obtain ⟨b, cb, rfl, hb1, hb2, -, -⟩ := hy.form
  obtain ⟨R, hR⟩ : ∃ R, R = sameE ⟨tm, kd, dt, ms⟩ ⟨tm', kd', dt', ms'⟩ := ⟨_, rfl⟩
  rw [← hR]
  unfold sameE at hR
  simp only at hR
  have HRR := hide_p hR
  obtain ⟨n, hn⟩ : ∃ n, n = ms.length := ⟨_, rfl⟩
  obtain ⟨n', hn'⟩ : ∃ n, n = ms'.length := ⟨_, rfl⟩
  have HN := hide_p hn
  have HN' := hide_p hn'
  have HX : Hid (NR w (.slice a n ca) ms) := by rw [hn]; exact hx
  have HY : Hid (NR w (.slice b n' cb) ms') := by rw [hn']; exact hy
  rw [← hn] at hl ha1 ⊢
  rw [← hn'] at hb1 ⊢
  obtain ⟨w1, hw1⟩ : ∃ w1, w1 = (w.alloc (.cells #[.int .u64 tm, .int .i64 kd, .string dt, .slice a n ca] 46)).alloc (.cells #[.int .u64 tm', .int .i64 kd', .string dt', .slice b n' cb] 46) := ⟨_, rfl⟩
  have HB1 : Hid (Below w.heap.size w w1) := by show Below _ _ _; rw [hw1]; exact ((Below.refl _ _).alloc (Nat.le_refl _) _).alloc (by simp) _
  have HA1 : Hid (w1.heap[w.heap.size]? = some (.cells #[.int .u64 tm, .int .i64 kd, .string dt, .slice a n ca] 46 (0, 0)) ∧ w1.heap[w.heap.size + 1]? = some (.cells #[.int .u64 tm', .int .i64 kd', .string dt', .slice b n' cb] 46 (0, 0))) := by
    show _ ∧ _
    rw [hw1]
    exact ⟨by rw [Below.heap_alloc _ _ _ (by simp)]; exact heap_alloc_new _ _, heap_alloc_at _ _ _ (by simp)⟩
  obtain ⟨x0, x1, x2, x3⟩ := block4 HA1.out.1
  obtain ⟨y0, y1, y2, y3⟩ := block4 HA1.out.2
  clear hx hy hR hn hn'
  go_enter Tryd.func23, Tryd.ntmps23
  go_upto_region 1 with fail
  rw [← hw1]
  clear hw1
  by_cases c1 : tm = tm'
  · by_cases c2 : kd = kd'
    · cases c3 : (dt.toList == dt'.toList) with
      | true =>
        by_cases c4 : n = n'
        · subst c1 c2 c4
          have hne3 : (dt.toList != dt'.toList) = false := by simp [bne, c3]
          have HRm : Hid (R = decide (ms = ms')) := by show _ = _; rw [HRR.out, c3]; simp
          clear HRR
          go_wp2_with fail
          go_loopw [5] (fun t5 wr => ∃ i : Nat, i ≤ n ∧ t5 = .int .i64 i ∧ Hid (ms.take i = ms'.take i) ∧ Hid (Below w1.heap.size w1 wr)) (fun t5 _ => n - (intOf t5).toNat)
          case atStart => exact ⟨0, Nat.zero_le _, rfl, rfl, Below.refl _ _⟩
          case round =>
            obtain ⟨i, hi, rfl, HT, HB⟩ := hrel
            have HBw : Hid (Below w.heap.size w wr) := HB1.out.trans (HB.out.mono HB1.out.size)
            obtain ⟨x0', x1', x2', x3'⟩ := blockOf4 HA1.out.1 HB.out
            obtain ⟨y0', y1', y2', y3'⟩ := blockOf4 HA1.out.2 HB.out
            clear x0 x1 x2 x3 y0 y1 y2 y3
            by_cases c : i < n
            · have i1 : i < ms.length := by rw [← HN.out]; exact c
              have i2 : i < ms'.length := by rw [← HN'.out]; exact c
              obtain ⟨-, g, o, rfl, hl1⟩ := (HX.out.kept HBw.out (Nat.le_refl _)).get i1
              obtain ⟨-, g', o', rfl, hl2⟩ := (HY.out.kept HBw.out (Nat.le_refl _)).get i2
              have e0 := hl1 i i1
              have e1 := hl2 i i2
              have HGO := (show Hid (ms[i] = ms'[i] → ms.take (i + 1) = ms'.take (i + 1)) from take_eq_ext HT.out i1 i2)
              have HBAD := (show Hid (¬ ms[i] = ms'[i] → R = false) from fun e => by
                rw [HRm.out, decide_eq_false]
                intro e2
                subst e2
                exact e rfl)
              have HBd : Hid (Below w1.heap.size w1 wr.drew) := HB.out.drew
              clear hl1 hl2
              generalize ms[i] = p at *
              generalize ms'[i] = q at *
              clear i1 i2
              by_cases ce : p = q
              · have HT2 := hide_p (HGO.out ce)
                subst ce
                clear HGO HBAD
                go_wp2_with fail
                go_region
                all_goals
                  go_wp2
                  go_roundw
                case rel => exact ⟨i + 1, by omega, by go_num, HT2, HBd⟩
                case measure => simp [intOf]; omega
              · have hRf := HBAD.out ce
                subst hRf
                have ce2 : (p != q) = true := by simp [ce]
                clear HGO HBAD
                go_wp2_with fail
                go_region
                all_goals
                  go_wp2
                  go_ret
                  exact ⟨rfl, HBw.out.drew⟩
            · have e : i = n := by omega
              have hRt : R = true := by
                rw [HRm.out]
                have h1 := HT.out
                rw [List.take_of_length_le (by have := HN.out; omega), List.take_of_length_le (by have := HN'.out; omega)] at h1
                simp [h1]
              subst hRt e
              clear HT HRm
              go_wp2
              go_ret
              exact ⟨rfl, HBw.out⟩
        · have hRf : R = false := by
            rw [HRR.out]
            have : ¬ ms = ms' := fun e => c4 (by rw [HN.out, HN'.out, e])
            simp [this]
          have hne3 : (dt.toList != dt'.toList) = false := by simp [bne, c3]
          have hne4 : ((n : Int) != (n' : Int)) = true := by simp; omega
          have hne5 : (n != n') = true := by simp [c4]
          subst c1 c2 hRf
          go_wp2
          go_ret
          exact ⟨rfl, HB1.out⟩
      | false =>
        have hRf : R = false := by rw [HRR.out, c3]; simp
        have hne3 : (dt.toList != dt'.toList) = true := by simp [bne, c3]
        subst c1 c2 hRf
        go_wp2
        go_ret
        exact ⟨rfl, HB1.out⟩
    · have hRf : R = false := by rw [HRR.out]; simp [c2]
      have hne2 : (kd != kd') = true := by simp [c2]
      subst c1 hRf
      go_wp2
      go_ret
      exact ⟨rfl, HB1.out⟩
  · have hRf : R = false := by rw [HRR.out]; simp [c1]
    have hne1 : ((tm : Int) != (tm' : Int)) = true := by simp; omega
    have hne1' : (tm != tm') = true := by simp [c1]
    subst hRf
    go_wp2
    go_ret
    exact ⟨rfl, HB1.out⟩

end Go.Proofs.YtjngknnkffbnmaaDoor
