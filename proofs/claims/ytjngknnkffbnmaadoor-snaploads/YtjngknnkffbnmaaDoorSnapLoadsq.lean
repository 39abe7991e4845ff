/-
  SnapLoads: any bytes are read as a snapshot, or refused, walked.
-/
import Derived.Test.YtjngknnkffbnmaaDoorSnLivesq
import Derived.Test.YtjngknnkffbnmaaDoorSnRef8q
import Derived.Test.YtjngknnkffbnmaaDoorSnRef9q
import Derived.Test.YtjngknnkffbnmaaDoorCdAppq
namespace Go.Proofs.YtjngknnkffbnmaaDoor
set_option maxRecDepth 100000
open Go.RowKit Crc Sn

namespace Sn
theorem load_len (l : List Nat) : (loadV l).2.ms.length ≤ 1000 := by
  have hz : zS.ms.length ≤ 1000 := Nat.zero_le _
  unfold loadV
  split
  · cases decD (frsB l) with
    | inl y => exact hz
    | inr t =>
      simp only
      split
      · next h =>
        show (readS t).ms.length ≤ 1000
        cases e : saveV (readS t) with
        | inl y => rw [e] at h; cases h
        | inr m =>
          unfold saveV at e
          split at e
          · cases e
          · next h1 =>
            have := mem_len (l := (readS t).ms) (by simpa using h1)
            omega
      · exact hz
  · exact hz
end Sn

set_option maxHeartbeats 8000000 in
theorem snapLoads_walk (v : Value) (l : List Nat) (w : World) (h : BR w v l) (hl : l.length ≤ 140737488351232) (hT : Tb w) (h0 : 0 < w.heap.size) :
    Calls Tryd.prog 4 #[v] w fun e w' => e = .returned (.bool true) ∧ Below w.heap.size w w' := by
  have HLV : Hid (∀ w', Below w.heap.size w w' → Calls Tryd.prog 8 #[] w' fun e w'' => e = .returned (.bool true) ∧ Below w'.heap.size w' w'') := fun w' hb => slives_any w' (hT.below hb h0) (Nat.lt_of_lt_of_le h0 hb.size)
  obtain ⟨z, hz⟩ : ∃ z, z = (loadV l).2 := ⟨_, rfl⟩
  obtain ⟨E, hE⟩ : ∃ E : Int, E = (if (loadV l).1 = true then 0 else 4) := ⟨_, rfl⟩
  have HLD : Hid (∀ v' w', BR w' v' l → Below w.heap.size w w' → Calls Tryd.prog 14 #[v'] w' (LdP w' z E)) := by
    intro v' w' hb hbl
    have := lLoad_any v' l w' hb (hT.below hbl h0) (Nat.lt_of_lt_of_le h0 hbl.size)
    unfold LdR at this
    rw [← hz, ← hE] at this
    exact this
  have HRL : Hid (∀ w', Below w.heap.size w w' → Calls Tryd.prog 16 #[v] w' (LdP w' z E)) := by
    intro w' hbl
    have := rLoad_any v l w' (h.below hbl (Nat.le_refl _))
    unfold LdR at this
    rw [← hz, ← hE] at this
    exact this
  have HZL : Hid (z.ms.length ≤ 1000) := by rw [hz]; exact load_len l
  have HSN : Hid (∀ mv mv' k1 k2 k1' k2' n1 n2 n1' n2' s1 s2 s1' s2' u1 u2 u1' u2' w', NR w' mv z.ms → NR w' mv' z.ms → CR w' z.ss (cellV k1 n1 s1 u1) → CR w' z.st (cellV k2 n2 s2 u2) → CR w' z.ss (cellV k1' n1' s1' u1') → CR w' z.st (cellV k2' n2' s2' u2') → Calls Tryd.prog 15 #[.agg #[.int .u64 z.ix, .int .u64 z.tm, mv, .int .i64 k1, .int .u64 n1, .string s1, u1, .int .i64 k2, .int .u64 n2, .string s2, u2], .agg #[.int .u64 z.ix, .int .u64 z.tm, mv', .int .i64 k1', .int .u64 n1', .string s1', u1', .int .i64 k2', .int .u64 n2', .string s2', u2']] w' fun e w'' => e = .returned (.bool true) ∧ Below w'.heap.size w' w'') :=
    fun mv mv' k1 k2 k1' k2' n1 n2 n1' n2' s1 s2 s1' s2' u1 u2 u1' u2' w' g1 g2 g3 g4 g5 g6 => rSnaps_same z mv mv' k1 k2 k1' k2' n1 n2 n1' n2' s1 s2 s1' s2' u1 u2 u1' u2' w' g1 g2 (by have := HZL.out; omega) g3 g4 g5 g6
  have oe := OW_empty w
  have bk : BR (w.alloc (.cells #[] 5)) v l := h.below ((Below.refl _ _).alloc (Nat.le_refl _) _) (Nat.le_refl _)
  obtain ⟨a, cap, rfl⟩ : ∃ a cap, v = .slice a l.length cap := by obtain ⟨-, a, cap, e, -⟩ := h; exact ⟨a, cap, e⟩
  clear h hT h0 hz hE
  obtain ⟨nl, hnl⟩ : ∃ nl, nl = l.length := ⟨_, rfl⟩
  rw [← hnl] at HRL bk ⊢
  have hl' : l.length ≤ 140737488351232 := hl
  clear hnl hl
  go_enter Tryd.func4, Tryd.ntmps4
  go_wp2_with (at_builtin; refine wpList_append_br rfl _ _ rfl w.heap.size _ _ [] l rfl rfl oe bk (by simp only [List.length_nil]; omega) (by simp) ?_)
  intro v2 w2 o2 g2
  have hb2 : Below w.heap.size w w2 := oe.grown g2 ((Below.refl _ _).alloc (Nat.le_refl _) _) (by simp)
  have HB2 : Hid (Below w.heap.size w w2) := hb2
  have hld := HLD.out v2 w2 o2.br hb2
  obtain ⟨a2, cap2, rfl⟩ := ownsRow_slice o2.2
  clear oe bk o2 g2 hb2 HLD hl'
  go_wp2_with fail
  refine hld.mono ?_
  rintro e w3 ⟨m3, k31, k32, n31, n32, s31, s32, u31, u32, rfl, hn3, hc31, hc32, hb3⟩
  have HB3 : Hid (Below w.heap.size w w3) := HB2.out.trans (hb3.mono HB2.out.size)
  have hsn := HSN.out m3
  obtain ⟨a3, c3, rfl, -, -, -, -⟩ := hn3.form
  obtain ⟨-, -, -, p31, d31, rfl⟩ := crTop hc31
  obtain ⟨-, -, -, p32, d32, rfl⟩ := crTop hc32
  have HN3 := hide_p hn3
  have HC31 := hide_p hc31
  have HC32 := hide_p hc32
  have HSN3 := hide_p hsn
  clear hld hb3 hn3 hc31 hc32 hsn HSN
  generalize hzm : z.ms.length = zm at *
  generalize hzs : z.ss.l.length = zs at *
  generalize hzt : z.st.l.length = zt at *
  have HZM := hide_p (And.intro hzm (And.intro hzs hzt))
  clear hzm hzs hzt
  generalize hzi : z.ix = zi at *
  generalize hzj : z.tm = zj at *
  have HZI := hide_p (And.intro hzi hzj)
  clear hzi hzj
  obtain ⟨w4, hw4⟩ : ∃ w4, w4 = w3.alloc (.cells #[.int .u64 zi, .int .u64 zj, .slice a3 zm c3, .int .i64 k31, .int .u64 n31, .string s31, .slice p31 zs d31, .int .i64 k32, .int .u64 n32, .string s32, .slice p32 zt d32] 28) := ⟨_, rfl⟩
  obtain ⟨b4, hb4⟩ : ∃ b4, b4 = w3.heap.size := ⟨_, rfl⟩
  have HB34 : Hid (Below w3.heap.size w3 w4) := by show Below _ _ _; rw [hw4]; exact (Below.refl _ _).alloc (Nat.le_refl _) _
  have HB4 : Hid (Below w.heap.size w w4) := HB3.out.trans (HB34.out.mono HB3.out.size)
  have HA4 : Hid (w4.heap[b4]? = some (.cells #[.int .u64 zi, .int .u64 zj, .slice a3 zm c3, .int .i64 k31, .int .u64 n31, .string s31, .slice p31 zs d31, .int .i64 k32, .int .u64 n32, .string s32, .slice p32 zt d32] 28 (0, 0))) := by show _ = _; rw [hw4, hb4]; exact heap_alloc_new _ _
  go_upto_region 2 with fail
  rw [← hw4, ← hb4]
  clear hw4 hb4
  go_wp2_with fail
  refine (HRL.out w4 HB4.out).mono ?_
  rintro e w5 ⟨m5, k51, k52, n51, n52, s51, s52, u51, u52, rfl, hn5, hc51, hc52, hb5⟩
  have HB5 : Hid (Below w.heap.size w w5) := HB4.out.trans (hb5.mono HB4.out.size)
  have HB35 : Hid (Below w3.heap.size w3 w5) := HB34.out.trans (hb5.mono HB34.out.size)
  have hA5 : w5.heap[b4]? = some (.cells #[.int .u64 zi, .int .u64 zj, .slice a3 zm c3, .int .i64 k31, .int .u64 n31, .string s31, .slice p31 zs d31, .int .i64 k32, .int .u64 n32, .string s32, .slice p32 zt d32] 28 (0, 0)) := (hb5.block _ (blk_lt HA4.out)).trans HA4.out
  have hsn := HSN3.out m5
  obtain ⟨a5, c5, rfl, -, -, -, -⟩ := hn5.form
  obtain ⟨-, -, -, p51, d51, rfl⟩ := crTop hc51
  obtain ⟨-, -, -, p52, d52, rfl⟩ := crTop hc52
  rw [HZM.out.1, HZM.out.2.1, HZM.out.2.2, HZI.out.1, HZI.out.2]
  rw [HZM.out.1] at hn5 hsn
  rw [HZM.out.2.1] at hc51
  rw [HZM.out.2.2] at hc52
  obtain ⟨w6, hw6⟩ : ∃ w6, w6 = w5.alloc (.cells #[.int .u64 zi, .int .u64 zj, .slice a5 zm c5, .int .i64 k51, .int .u64 n51, .string s51, .slice p51 zs d51, .int .i64 k52, .int .u64 n52, .string s52, .slice p52 zt d52] 28) := ⟨_, rfl⟩
  obtain ⟨b6, hb6⟩ : ∃ b6, b6 = w5.heap.size := ⟨_, rfl⟩
  have hk : Below w5.heap.size w5 w6 := by rw [hw6]; exact (Below.refl _ _).alloc (Nat.le_refl _) _
  have HB6 : Hid (Below w.heap.size w w6) := HB5.out.trans (hk.mono HB5.out.size)
  have hk3 : Below w3.heap.size w3 w6 := HB35.out.trans (hk.mono HB35.out.size)
  have hcall := hsn _ _ _ _ _ _ _ _ _ _ _ _ _ _ _ _ w6 (HN3.out.kept hk3 (Nat.le_refl _)) (hn5.kept hk (Nat.le_refl _)) (HC31.out.kept hk3 (Nat.le_refl _)) (HC32.out.kept hk3 (Nat.le_refl _)) (hc51.kept hk (Nat.le_refl _)) (hc52.kept hk (Nat.le_refl _))
  obtain ⟨y0, y1, y2, y3, y4, y5, y6, y7, y8, y9, y10⟩ := block11 ((hk.block _ (blk_lt hA5)).trans hA5)
  obtain ⟨x0, x1, x2, x3, x4, x5, x6, x7, x8, x9, x10⟩ := block11 (show w6.heap[b6]? = some (.cells #[.int .u64 zi, .int .u64 zj, .slice a5 zm c5, .int .i64 k51, .int .u64 n51, .string s51, .slice p51 zs d51, .int .i64 k52, .int .u64 n52, .string s52, .slice p52 zt d52] 28 (0, 0)) by rw [hw6, hb6]; exact heap_alloc_new _ _)
  clear hsn hk hk3 hn5 hc51 hc52 hA5 HN3 HC31 HC32 HSN3 HRL hb5
  go_upto_region 3 with fail
  rw [← hw6, ← hb6]
  clear hw6 hb6
  go_wp2_with fail
  refine hcall.mono ?_
  rintro e w7 ⟨rfl, hb7⟩
  have HB7 : Hid (Below w.heap.size w w7) := HB6.out.trans (hb7.mono HB6.out.size)
  have hlv := HLV.out w7 HB7.out
  clear hcall hb7 x0 x1 x2 x3 x4 x5 x6 x7 x8 x9 x10 y0 y1 y2 y3 y4 y5 y6 y7 y8 y9 y10
  go_wp2_with fail
  refine hlv.mono ?_
  rintro e w8 ⟨rfl, hb8⟩
  have HBw : Hid (Below w.heap.size w w8) := HB7.out.trans (hb8.mono HB7.out.size)
  clear hlv hb8
  go_wp2
  go_ret
  exact ⟨rfl, HBw.out⟩

end Go.Proofs.YtjngknnkffbnmaaDoor
