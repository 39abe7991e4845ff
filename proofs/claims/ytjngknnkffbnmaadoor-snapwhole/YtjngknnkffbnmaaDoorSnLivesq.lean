/-
  Layer 19: the laws' lives, walked.
-/
import Derived.Test.YtjngknnkffbnmaaDoorSnLand3q
import Derived.Test.YtjngknnkffbnmaaDoorSnLand6q
namespace Go.Proofs.YtjngknnkffbnmaaDoor
set_option maxRecDepth 100000
open Go.RowKit Crc Sn

namespace Sn
def lvS : Sp := ⟨5, 0, [1, 3], zT, zT⟩
def lvB : List Nat := [2, 0, 0, 0, 5, 0, 0, 0, 0, 0, 0, 0, 0, 5, 0, 0, 0, 0, 0, 0, 0, 0, 0, 2, 0, 0, 0, 2, 0, 0, 0, 0, 0, 0, 0, 0, 1, 0, 0, 0, 0, 0, 0, 0, 0, 3, 0, 0, 0, 0, 0, 0, 0, 0, 0, 0, 0, 0, 0, 0, 0, 0, 0, 0]
theorem lv_enc : encT (snapT lvS) 64 [] = .inr lvB := by
  have u1 : uw 1 = 1 := rfl
  have u3 : uw 3 = 3 := rfl
  simp [encT_mk, encL_cons, encL_nil, snapT, lvS, memT, lisT, numT, zT, be, u1, u3, lvB]
theorem lv_save : ∃ m, saveV lvS = .inr m := by
  refine ⟨frm lvB, ?_⟩
  unfold saveV
  rw [if_neg (by decide), if_neg (by decide), lv_enc]
  rfl
theorem nt_zT : NT zT := by unfold zT; rw [NT_mk]; exact ⟨by decide, fun t h => by cases h⟩
theorem lv_load {m : List Nat} (h : saveV lvS = .inr m) (hs : Sm8 m) : loadV m = (true, plainS lvS) := snap_back h (nt_snap nt_zT nt_zT (by decide) (by decide)) hs
theorem nr_lit {w : World} {g : Nat} {cs : Array Value} {T : TypeId} {fr : Nat × Nat} {l : List Int} (h : w.heap[g]? = some (.cells cs T fr)) (hc : cs.toList = l.map intV) (hl : l.length ≤ 1000000) : NR w (.slice (some ⟨g, 0, none⟩) l.length l.length) l := by
  refine ⟨⟨_, _, rfl, Nat.le_refl _, by omega, (fun e => by cases e), fun x e => ?_⟩⟩
  cases e
  refine ⟨fun _ => rfl, fun i hi => ?_⟩
  rw [Lib.cell_of_heap h]
  simp only [Nat.zero_add]
  rw [← Array.getElem?_toList, hc, List.getElem?_map, List.getElem?_eq_getElem hi]
  rfl
end Sn

set_option maxHeartbeats 2000000 in
theorem slives_any (w : World) (hT : Tb w) (h0 : 0 < w.heap.size) : Calls Tryd.prog 8 #[] w fun e w' => e = .returned (.bool true) ∧ Below w.heap.size w w' := by
  obtain ⟨m, hm⟩ := lv_save
  obtain ⟨w1, hw1⟩ : ∃ w1, w1 = w.alloc (.cells #[.int .i64 1, .int .i64 3] 3) := ⟨_, rfl⟩
  have HB1 : Hid (Below w.heap.size w w1) := by show Below _ _ _; rw [hw1]; exact (Below.refl _ _).alloc (Nat.le_refl _) _
  have hr1 : NR w1 (.slice (some ⟨w.heap.size, 0, none⟩) 2 2) [1, 3] := by
    rw [hw1]
    exact nr_lit (l := [1, 3]) (heap_alloc_new _ _) rfl (by decide)
  have hcall : Calls Tryd.prog 9 #[.agg #[.int .u64 5, .int .u64 0, .slice (some ⟨w.heap.size, 0, none⟩) 2 2, .int .i64 0, .int .u64 0, .string ⟨#[]⟩, .slice none 0 0, .int .i64 0, .int .u64 0, .string ⟨#[]⟩, .slice none 0 0]] w1 (Encd (saveV lvS) w1) :=
    lSave_any lvS _ 0 0 0 0 nob nob (.slice none 0 0) (.slice none 0 0) w1 hr1 (cr_zT _) (cr_zT _) (by decide) (by decide) (hT.below HB1.out h0) (Nat.lt_of_lt_of_le h0 HB1.out.size)
  rw [hm] at hcall
  have HT := hide_p hT
  have H0 := hide_p h0
  have HM := hide_p hm
  have HME : Hid (∀ w', Calls Tryd.prog 12 #[.slice (some ⟨(w' : World).heap.size, 0, none⟩) 2 2] (w'.alloc (.cells #[.int .i64 1, .int .i64 3] 3)) fun e w'' => e = .returned (.bool true) ∧ Below (w'.alloc (.cells #[.int .i64 1, .int .i64 3] 3)).heap.size (w'.alloc (.cells #[.int .i64 1, .int .i64 3] 3)) w'') := by
    intro w'
    exact lMembers_any [1, 3] _ _ (nr_lit (l := [1, 3]) (heap_alloc_new _ _) rfl (by decide))
  have HMF : Hid (∀ w', Calls Tryd.prog 12 #[.slice (some ⟨(w' : World).heap.size, 0, none⟩) 2 2] (w'.alloc (.cells #[.int .i64 3, .int .i64 1] 3)) fun e w'' => e = .returned (.bool false) ∧ Below (w'.alloc (.cells #[.int .i64 3, .int .i64 1] 3)).heap.size (w'.alloc (.cells #[.int .i64 3, .int .i64 1] 3)) w'') := by
    intro w'
    exact lMembers_any [3, 1] _ _ (nr_lit (l := [3, 1]) (heap_alloc_new _ _) rfl (by decide))
  clear hT h0 hm hr1
  go_enter Tryd.func8, Tryd.ntmps8
  go_wp2_with fail
  rw [← hw1]
  clear hw1
  refine hcall.mono ?_
  rintro e w2 ⟨v2, x2, rfl, hb2, how, rfl⟩
  have HB2 : Hid (Below w.heap.size w w2) := HB1.out.trans (hb2.mono HB1.out.size)
  have hl := lv_load HM.out how.br.1
  have hload := lLoad_any v2 m w2 how.br (HT.out.below HB2.out H0.out) (Nat.lt_of_lt_of_le H0.out HB2.out.size)
  unfold LdR at hload
  rw [hl] at hload
  simp only [if_true] at hload
  obtain ⟨a2, c2, rfl⟩ := ownsRow_slice how.2
  clear hcall hb2 how hl
  generalize m.length = nm at *
  go_wp2_with fail
  refine hload.mono ?_
  rintro e w3 ⟨mv, k1, k2, n1, n2, s1, s2, u1, u2, rfl, hnr, hc1, hc2, hb3⟩
  have HB3 : Hid (Below w.heap.size w w3) := HB2.out.trans (hb3.mono HB2.out.size)
  obtain ⟨a3, c3, rfl, -, -, -, -⟩ := hnr.form
  obtain ⟨-, -, -, b1, d1, rfl⟩ := crTop hc1
  obtain ⟨-, -, -, b2, d2, rfl⟩ := crTop hc2
  clear hload hb3 hnr hc1 hc2
  have e1 : (plainS lvS).ix = 5 := rfl
  have e2 : (plainS lvS).ms.length = 2 := rfl
  have e3 : (plainS lvS).tm = 0 := rfl
  rw [e1, e2, e3]
  generalize (plainS lvS).ss.l.length = q1 at *
  generalize (plainS lvS).st.l.length = q2 at *
  obtain ⟨w4, hw4⟩ : ∃ w4, w4 = w3.alloc (.cells #[.int .u64 5, .int .u64 0, .slice a3 2 c3, .int .i64 k1, .int .u64 n1, .string s1, .slice b1 q1 d1, .int .i64 k2, .int .u64 n2, .string s2, .slice b2 q2 d2] 28) := ⟨_, rfl⟩
  obtain ⟨b4, hb4⟩ : ∃ b4, b4 = w3.heap.size := ⟨_, rfl⟩
  have HB4 : Hid (Below w.heap.size w w4) := by show Below _ _ _; rw [hw4]; exact HB3.out.alloc HB3.out.size _
  have HA4 : Hid (w4.heap[b4]? = some (.cells #[.int .u64 5, .int .u64 0, .slice a3 2 c3, .int .i64 k1, .int .u64 n1, .string s1, .slice b1 q1 d1, .int .i64 k2, .int .u64 n2, .string s2, .slice b2 q2 d2] 28 (0, 0))) := by show _ = _; rw [hw4, hb4]; exact heap_alloc_new _ _
  obtain ⟨x0, x1, x2, x3, x4, x5, x6, x7, x8, x9, x10⟩ := block11 HA4.out
  go_upto_region 3 with fail
  rw [← hw4, ← hb4]
  clear hw4 hb4
  go_wp2_with fail
  refine (HME.out w4).mono ?_
  rintro e w5 ⟨rfl, hb5⟩
  have HB5 : Hid (Below w.heap.size w w5) := HB4.out.trans (((Below.refl _ _).alloc (Nat.le_refl _) _).trans (hb5.mono (by simp)) |>.mono HB4.out.size)
  clear hb5
  go_wp2_with fail
  refine (HMF.out w5).mono ?_
  rintro e w6 ⟨rfl, hb6⟩
  have HB6 : Hid (Below w.heap.size w w6) := HB5.out.trans (((Below.refl _ _).alloc (Nat.le_refl _) _).trans (hb6.mono (by simp)) |>.mono HB5.out.size)
  clear hb6
  go_wp2
  go_ret
  exact ⟨by first | rfl | simp, HB6.out⟩

end Go.Proofs.YtjngknnkffbnmaaDoor
