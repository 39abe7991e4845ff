/-
  Layer 13: the landed Print, and the laws' lives, walked.
-/
import Derived.Test.YtcblknghkgihcaaDoorPgPrn2
import Derived.Test.YtcblknghkgihcaaDoorPgChk6
namespace Go.Proofs.YtcblknghkgihcaaDoor
set_option maxRecDepth 100000
open Go.RowKit Txt Pg

set_option maxHeartbeats 4000000 in
theorem print_any (t : Pr) (x : Six) (w : World) (h : PR w t x) (hT : Ot w) (hTB : TB w) (hlen : (prnT t).length ≤ 140737488355328) :
    Calls Tryd.prog 22 #[x.v] w fun e w' => e = .returned (.string (bs (prnT t))) ∧ Below w.heap.size w w' := by
  have HP := hide_p h
  have hforms : ∃ a1 n1 c1 a2 n2 c2 a3 n3 c3 a4 n4 c4, x.u = .slice a1 n1 c1 ∧ x.c = .slice a2 n2 c2 ∧ x.k = .slice a3 n3 c3 ∧ x.p = .slice a4 n4 c4 := by
    obtain ⟨qpa, qrg, qus, qcs, qks, qps⟩ := t
    rw [PR_mk] at h
    obtain ⟨-, -, -, -, hqu, hqc, hqk, f', hqp, -⟩ := h
    obtain ⟨a1, c1, h1, -⟩ := hqu.1.val
    obtain ⟨a2, c2, h2, -⟩ := hqc.1.val
    obtain ⟨a3, c3, h3, -⟩ := hqk.1.val
    obtain ⟨a4, c4, h4, -⟩ := hqp.val
    exact ⟨_, _, _, _, _, _, _, _, _, _, _, _, h1, h2, h3, h4⟩
  obtain ⟨pa, rg, vu, vc, vk, vp⟩ := x
  simp only at hforms
  obtain ⟨a1, n1, c1, a2, n2, c2, a3, n3, c3, a4, n4, c4, rfl, rfl, rfl, rfl⟩ := hforms
  clear h
  have h00 := hT.1
  unfold Six.v
  simp only
  obtain ⟨w0, hw0⟩ : ∃ w0, w0 = (w.alloc (.cells #[.int .i64 pa, .int .i64 rg, .slice a1 n1 c1, .slice a2 n2 c2, .slice a3 n3 c3, .slice a4 n4 c4] 27)).alloc (.cells #[.pointer none, .slice none 0 0] 81) := ⟨_, rfl⟩
  have hs0 : w0.heap.size = w.heap.size + 2 := by rw [hw0]; simp
  have hb0 : Below w.heap.size w w0 := by rw [hw0]; exact ((Below.refl _ _).alloc (Nat.le_refl _) _).alloc (by simp) _
  have HB0 := hide_p hb0
  have hbd : Bd w0 w.heap.size (w.heap.size + 1) none [] := by
    refine Or.inl ⟨by omega, .slice none 0 0, ?_, ?_, rfl, by simp⟩
    · rw [hw0]
      have := heap_alloc_new (w.alloc (.cells #[.int .i64 pa, .int .i64 rg, .slice a1 n1 c1, .slice a2 n2 c2, .slice a3 n3 c3, .slice a4 n4 c4] 27)) (.cells #[.pointer none, .slice none 0 0] 81)
      simpa using this
    · exact World.ownsRow_nil _ _ _ _
  have x0 : w0.cell? ⟨w.heap.size, 0, none⟩ = some (.int .i64 pa) := by rw [hw0, World.cell?_alloc_lt _ _ _ (by simp), World.cell?_alloc_new]; rfl
  have x1 : w0.cell? ⟨w.heap.size, 1, none⟩ = some (.int .i64 rg) := by rw [hw0, World.cell?_alloc_lt _ _ _ (by simp), World.cell?_alloc_new]; rfl
  have x2 : w0.cell? ⟨w.heap.size, 2, none⟩ = some (.slice a1 n1 c1) := by rw [hw0, World.cell?_alloc_lt _ _ _ (by simp), World.cell?_alloc_new]; rfl
  have x3 : w0.cell? ⟨w.heap.size, 3, none⟩ = some (.slice a2 n2 c2) := by rw [hw0, World.cell?_alloc_lt _ _ _ (by simp), World.cell?_alloc_new]; rfl
  have x4 : w0.cell? ⟨w.heap.size, 4, none⟩ = some (.slice a3 n3 c3) := by rw [hw0, World.cell?_alloc_lt _ _ _ (by simp), World.cell?_alloc_new]; rfl
  have x5 : w0.cell? ⟨w.heap.size, 5, none⟩ = some (.slice a4 n4 c4) := by rw [hw0, World.cell?_alloc_lt _ _ _ (by simp), World.cell?_alloc_new]; rfl
  have hpf := printFunction_any t _ w w0 w.heap.size (w.heap.size + 1) none [] HP.out hT hTB hb0 (Nat.le_refl _) (by omega) hbd (by simpa using hlen)
  simp only [Six.v, List.nil_append] at hpf
  clear hT hTB hlen HP hb0
  go_enter Tryd.func22, Tryd.ntmps22
  go_upto_region 2 with fail
  rw [← hw0]
  clear hw0
  go_wp2_with fail
  refine hpf.mono ?_
  rintro e w1 ⟨rfl, g1, hwt⟩
  have HB1 : Hid (Below w.heap.size w w1) := HB0.out.trans (hwt.base hbd (by omega) (by omega))
  have hstr := bstring_any w.heap.size (w.heap.size + 1) g1 _ w1 hwt.bd HB1.out.size
  clear hwt hpf x0 x1 x2 x3 x4 x5 hbd
  go_wp2_with fail
  refine hstr.mono ?_
  rintro e w2 ⟨rfl, hb2⟩
  have HB2 : Hid (Below w.heap.size w w2) := HB1.out.trans hb2
  clear hb2 hstr
  go_wp2
  go_ret
  exact ⟨rfl, HB2.out⟩

def leastP : Pr := .mk 0 0 [] [⟨34, 0, 0, 0⟩] [] []
theorem SL_nil (w : World) (z : Nat) (F : Nat → Nat → Value → Prop) : SL w (.slice none 0 0) 0 z F := ⟨none, 0, rfl, Nat.le_refl _, by decide, by unfold far; omega, fun _ => ⟨rfl, rfl⟩, fun x e => by cases e⟩
theorem PR_zero (w : World) : PR w (.mk 0 0 [] [] [] []) ⟨0, 0, .slice none 0 0, .slice none 0 0, .slice none 0 0, .slice none 0 0⟩ := by
  rw [PR_mk]
  exact ⟨rfl, rfl, by unfold i64; decide, by unfold i64; decide, ⟨SL_nil _ _ _, fun x h => by cases h⟩, ⟨SL_nil _ _ _, fun x h => by cases h⟩, ⟨SL_nil _ _ _, fun x h => by cases h⟩, fun _ => ⟨0, 0, .slice none 0 0, .slice none 0 0, .slice none 0 0, .slice none 0 0⟩, SL_nil _ _ _, fun i h => absurd h (Nat.not_lt_zero _)⟩

set_option maxHeartbeats 1000000 in
theorem least_any (w : World) : Calls Tryd.prog 21 #[] w fun e w' => ∃ x : Six, e = .returned x.v ∧ PR w' leastP x ∧ Below w.heap.size w w' := by
  go_enter Tryd.func21, Tryd.ntmps21
  go_wp2
  refine bodyPost_ret (v := .agg #[.int .i64 0, .int .i64 0, .slice none 0 0, .slice (some ⟨w.heap.size + 1, 0, none⟩) 1 1, .slice none 0 0, .slice none 0 0]) (by simp [results, Tryd.results21, go_sem]) rfl ⟨⟨0, 0, .slice none 0 0, .slice (some ⟨w.heap.size + 1, 0, none⟩) 1 1, .slice none 0 0, .slice none 0 0⟩, rfl, ?_, ((Below.refl _ _).alloc (Nat.le_refl _) _).alloc (by simp) _⟩
  unfold leastP
  rw [PR_mk]
  refine ⟨rfl, rfl, by unfold i64; decide, by unfold i64; decide, ⟨SL_nil _ _ _, fun x h => by cases h⟩, ⟨⟨some ⟨w.heap.size + 1, 0, none⟩, 1, rfl, Nat.le_refl _, by decide, by unfold far; simp, (fun e => by cases e), ?_⟩, ?_⟩, ⟨SL_nil _ _ _, fun x h => by cases h⟩, fun _ => ⟨0, 0, .slice none 0 0, .slice none 0 0, .slice none 0 0, .slice none 0 0⟩, SL_nil _ _ _, fun i h => absurd h (Nat.not_lt_zero _)⟩
  · intro x e
    cases e
    refine ⟨fun _ => rfl, fun i hi j hj => ?_⟩
    have hi0 : i = 0 := by simp at hi; omega
    subst hi0
    have hj4 : j = 0 ∨ j = 1 ∨ j = 2 ∨ j = 3 := by omega
    rcases hj4 with rfl | rfl | rfl | rfl
    all_goals
      refine ⟨_, by rw [World.cell?_alloc_at _ _ _ _ (by simp)]; rfl, ⟨34, 0, 0, 0⟩, rfl, ?_⟩
      simp
  · intro x hx
    have : x = ⟨34, 0, 0, 0⟩ := by simpa using hx
    subst this
    exact ⟨by unfold i64; decide, by unfold i64; decide, by unfold i64; decide, by unfold i64; decide⟩

theorem chk_least : chkB leastP = 0 := by decide +kernel
theorem chk_zero : chkB (.mk 0 0 [] [] [] []) = 1 := by decide +kernel
theorem prn_least : prnT leastP = [48, 32, 101, 110, 100, 10] := by
  unfold leastP
  rw [prnT_mk]
  decide +kernel

set_option maxHeartbeats 2000000 in
theorem glives_any (w : World) (hT : Ot w) (hTB : TB w) : Calls Tryd.prog 6 #[] w fun e w' => e = .returned (.bool true) ∧ Below w.heap.size w w' := by
  have h00 := hT.1
  have HT := hide_p hT
  have HTB := hide_p hTB
  have HL : Hid (∀ w, Calls Tryd.prog 21 #[] w fun e w' => ∃ x : Six, e = .returned x.v ∧ PR w' leastP x ∧ Below w.heap.size w w') := least_any
  clear hT hTB
  go_enter Tryd.func6, Tryd.ntmps6
  go_wp2_with fail
  refine (HL.out _).mono ?_
  rintro e w1 ⟨x1, rfl, hp1, hb1⟩
  have hc1 := check_any _ _ w1 hp1 (HT.out.below hb1 h00)
  rw [chk_least] at hc1
  have HB1 := hide_p hb1
  clear hp1 hb1
  generalize x1.v = v1 at *
  go_wp2_with fail
  refine hc1.mono ?_
  rintro e w2 ⟨rfl, hb2⟩
  have HB2 : Hid (Below w.heap.size w w2) := HB1.out.trans (hb2.mono HB1.out.size)
  have hc2 := check_any _ _ w2 (PR_zero w2) (HT.out.below HB2.out h00)
  rw [chk_zero] at hc2
  simp only [Six.v] at hc2
  clear hb2 hc1
  go_wp2_with fail
  refine hc2.mono ?_
  rintro e w3 ⟨rfl, hb3⟩
  have HB3 : Hid (Below w.heap.size w w3) := HB2.out.trans (hb3.mono HB2.out.size)
  clear hb3 hc2
  go_wp2_with fail
  refine (HL.out _).mono ?_
  rintro e w4 ⟨x4, rfl, hp4, hb4⟩
  have HB4 : Hid (Below w.heap.size w w4) := HB3.out.trans (hb4.mono HB3.out.size)
  have hpr := print_any _ _ w4 hp4 (HT.out.below HB4.out h00) (HTB.out.below HB4.out) (by rw [prn_least]; decide)
  rw [prn_least] at hpr
  clear hp4 hb4
  generalize x4.v = v4 at *
  go_wp2_with fail
  refine hpr.mono ?_
  rintro e w5 ⟨rfl, hb5⟩
  have HB5 : Hid (Below w.heap.size w w5) := HB4.out.trans (hb5.mono HB4.out.size)
  have hbs : bs [48, 32, 101, 110, 100, 10] = ⟨#[48, 32, 101, 110, 100, 10]⟩ := rfl
  rw [hbs]
  clear hb5 hpr hbs
  go_wp2
  go_ret
  exact ⟨rfl, HB5.out⟩

/-- The names, and what the reference says of a number. -/
def namesB : List ByteArray := (ordL.map fun x => bs x.1)
theorem refCost_tab : ∀ r, r < 38 → (ordL.getD r noRow).2.1 = if (r = 2 ∨ r = 3 ∨ r = 4 ∨ r = 29 ∨ r = 30 ∨ r = 31 ∨ r = 34) then 0 else 1 := by decide

end Go.Proofs.YtcblknghkgihcaaDoor
