/-
  Layer 13: the landed Check, walked.
-/
import Derived.Test.YtcblknghkgihcaaDoorPgChk5
namespace Go.Proofs.YtcblknghkgihcaaDoor
set_option maxRecDepth 100000
open Go.RowKit Txt Pg Flo

/-- What is wrong with a whole script's function. -/
def chkB (t : Pr) : Int :=
  if longB t.rg t.cs.length t.ks.length t.us.length = true then 2
  else if (decide (t.us.length > 0) || !(soundB t)) = true then 1
  else (chkL t.rg t.us.length 1 1 t.ps).2

set_option maxHeartbeats 4000000 in
theorem check_any (t : Pr) (x : Six) (w : World) (h : PR w t x) (hT : Ot w) :
    Calls Tryd.prog 20 #[x.v] w fun e w' => e = .returned (.int .i64 (chkB t)) ∧ Below w.heap.size w w' := by
  have HP : Hid (PR w t x) := h
  have HT : Hid (Ot w) := hT
  have h00 := hT.1
  obtain ⟨pa, rg, us, cs, ks, ps⟩ := t
  rw [PR_mk] at h
  obtain ⟨pa', rg', vu, vc, vk, vp⟩ := x
  simp only at h
  obtain ⟨rfl, rfl, hpa, hrg, hu, hc, hk, f, hp, hch⟩ := h
  obtain ⟨au, cu, rfl, -, -, lu⟩ := hu.1.val
  obtain ⟨ac, cc, rfl, -, -, -⟩ := hc.1.val
  obtain ⟨ak, ck, rfl, -, -, -⟩ := hk.1.val
  obtain ⟨ap, cp, rfl, -, -, -⟩ := hp.val
  clear hu hc hk hp hch hT
  unfold Six.v
  simp only
  obtain ⟨nu, hnu⟩ : ∃ n, n = us.length := ⟨_, rfl⟩
  have HNU : Hid (nu = us.length) := hnu
  have HR : Hid (chkB (.mk pa' rg' us cs ks ps) = if longB rg' cs.length ks.length us.length = true then 2
    else if (decide (us.length > 0) || !(soundB (.mk pa' rg' us cs ks ps))) = true then 1
    else (chkL rg' us.length 1 1 ps).2) := rfl
  rw [← hnu]
  rw [← hnu] at HR lu
  unfold far at lu
  clear hnu
  obtain ⟨w0, hw0⟩ : ∃ w0, w0 = w.alloc (.cells #[.int .i64 pa', .int .i64 rg', .slice au nu cu, .slice ac cs.length cc, .slice ak ks.length ck, .slice ap ps.length cp] 27) := ⟨_, rfl⟩
  have HB0 : Hid (Below w.heap.size w w0) := by rw [hw0]; exact (Below.refl _ w).alloc (Nat.le_refl _) _
  have hs0 : w0.heap.size = w.heap.size + 1 := by rw [hw0]; simp
  have HA0 : Hid (∀ j, w0.cell? ⟨w.heap.size, j, none⟩ = (#[.int .i64 pa', .int .i64 rg', .slice au nu cu, .slice ac cs.length cc, .slice ak ks.length ck, .slice ap ps.length cp] : Array Value)[j]?) := by
    intro j
    rw [hw0, World.cell?_alloc_new]
  have x0 : w0.cell? ⟨w.heap.size, 0, none⟩ = some (.int .i64 pa') := HA0.out 0
  have x1 : w0.cell? ⟨w.heap.size, 1, none⟩ = some (.int .i64 rg') := HA0.out 1
  have x2 : w0.cell? ⟨w.heap.size, 2, none⟩ = some (.slice au nu cu) := HA0.out 2
  have x3 : w0.cell? ⟨w.heap.size, 3, none⟩ = some (.slice ac cs.length cc) := HA0.out 3
  have x4 : w0.cell? ⟨w.heap.size, 4, none⟩ = some (.slice ak ks.length ck) := HA0.out 4
  have x5 : w0.cell? ⟨w.heap.size, 5, none⟩ = some (.slice ap ps.length cp) := HA0.out 5
  have hlong := isLong_any pa' rg' au ac ak nu cu cs.length cc ks.length ck (.slice ap ps.length cp) w0
  obtain ⟨z, HZ⟩ : ∃ z, Hid (longB rg' cs.length ks.length nu = z) := ⟨_, rfl⟩
  rw [HZ.out] at hlong HR
  go_enter Tryd.func20, Tryd.ntmps20
  go_upto_region 1 with fail
  rw [← hw0]
  clear hw0
  go_wp2_with fail
  refine hlong.mono ?_
  rintro e w1 ⟨rfl, hb1⟩
  have HB1 : Hid (Below w0.heap.size w0 w1) := hb1
  have HB1w : Hid (Below w.heap.size w w1) := HB0.out.trans (hb1.mono HB0.out.size)
  clear hlong x0 x1 x2 x3 x4 x5 hb1
  cases z with
  | true =>
    go_wp2
    go_ret
    exact ⟨by rw [HR.out]; simp, HB1w.out⟩
  | false =>
    have y2 : w1.cell? ⟨w.heap.size, 2, none⟩ = some (.slice au nu cu) := box6 HA0.out HB1.out (Nat.le_refl _) rfl
    by_cases d : (nu : Int) > 0
    · have HF : Hid (chkB (.mk pa' rg' us cs ks ps) = 1) := by
        show _ = _
        rw [HR.out, if_neg (by simp), if_pos (by simp; omega)]
      clear HR
      go_wp2
      go_ret
      exact ⟨by rw [HF.out]; rfl, HB1w.out⟩
    · have HF : Hid (chkB (.mk pa' rg' us cs ks ps) = if (!(soundB (.mk pa' rg' us cs ks ps))) = true then 1 else (chkL rg' nu 1 1 ps).2) := by
        show _ = _
        rw [HR.out, if_neg (by simp)]
        rw [show decide (nu > 0) = false by simp; omega]
        simp
      clear HR
      obtain rfl : nu = 0 := by omega
      clear d
      have y0 : w1.cell? ⟨w.heap.size, 0, none⟩ = some (.int .i64 pa') := box6 HA0.out HB1.out (Nat.le_refl _) rfl
      have y1 : w1.cell? ⟨w.heap.size, 1, none⟩ = some (.int .i64 rg') := box6 HA0.out HB1.out (Nat.le_refl _) rfl
      have y3 : w1.cell? ⟨w.heap.size, 3, none⟩ = some (.slice ac cs.length cc) := box6 HA0.out HB1.out (Nat.le_refl _) rfl
      have y4 : w1.cell? ⟨w.heap.size, 4, none⟩ = some (.slice ak ks.length ck) := box6 HA0.out HB1.out (Nat.le_refl _) rfl
      have y5 : w1.cell? ⟨w.heap.size, 5, none⟩ = some (.slice ap ps.length cp) := box6 HA0.out HB1.out (Nat.le_refl _) rfl
      have hsound := isSound_any _ _ w1 (PR.kept HB1w.out (Nat.le_refl _) _ _ HP.out) (HT.out.below HB1w.out h00)
      simp only [Six.v] at hsound
      rw [← HNU.out] at hsound
      obtain ⟨z1, HZ1⟩ : ∃ z, Hid (soundB (.mk pa' rg' us cs ks ps) = z) := ⟨_, rfl⟩
      rw [HZ1.out] at hsound HF
      go_wp2_with fail
      refine hsound.mono ?_
      rintro e w2 ⟨rfl, hb2⟩
      have HB2 : Hid (Below w0.heap.size w0 w2) := HB1.out.trans (hb2.mono HB1.out.size)
      have HB2w : Hid (Below w.heap.size w w2) := HB0.out.trans (HB2.out.mono HB0.out.size)
      have hsz : w.heap.size < w2.heap.size := by have := HB2.out.size; omega
      clear hsound y0 y1 y2 y3 y4 y5 hb2
      cases z1 with
      | false =>
        go_wp2
        go_ret
        exact ⟨by rw [HF.out]; simp, HB2w.out⟩
      | true =>
        have y0 : w2.cell? ⟨w.heap.size, 0, none⟩ = some (.int .i64 pa') := box6 HA0.out HB2.out (Nat.le_refl _) rfl
        have y1 : w2.cell? ⟨w.heap.size, 1, none⟩ = some (.int .i64 rg') := box6 HA0.out HB2.out (Nat.le_refl _) rfl
        have y2 : w2.cell? ⟨w.heap.size, 2, none⟩ = some (.slice au 0 cu) := box6 HA0.out HB2.out (Nat.le_refl _) rfl
        have y3 : w2.cell? ⟨w.heap.size, 3, none⟩ = some (.slice ac cs.length cc) := box6 HA0.out HB2.out (Nat.le_refl _) rfl
        have y4 : w2.cell? ⟨w.heap.size, 4, none⟩ = some (.slice ak ks.length ck) := box6 HA0.out HB2.out (Nat.le_refl _) rfl
        have y5 : w2.cell? ⟨w.heap.size, 5, none⟩ = some (.slice ap ps.length cp) := box6 HA0.out HB2.out (Nat.le_refl _) rfl
        have hb3 : Below w2.heap.size w2 (w2.alloc (.cells #[.int .i64 1] 76)) := (Below.refl _ _).alloc (Nat.le_refl _) _
        have hrec := functions_any _ _ w (w2.alloc (.cells #[.int .i64 1] 76)) w2.heap.size 1 1 HP.out HT.out (HB2w.out.trans (hb3.mono HB2w.out.size)) HB2w.out.size ⟨by rw [World.cell?_alloc_new]; rfl, World.frozen?_alloc_at _ _ _ _ rfl⟩ (by decide) (by decide)
        simp only [Six.v] at hrec
        rw [← HNU.out] at hrec
        rw [show ((1 : Nat) : Int) = 1 from rfl] at hrec
        have HF2 : Hid (chkB (.mk pa' rg' us cs ks ps) = (chkL rg' 0 1 1 ps).2) := by
          show _ = _
          rw [HF.out]; simp
        go_wp2_with fail
        refine hrec.mono ?_
        rintro e w3 ⟨rfl, hk3, -, -⟩
        have HB3w : Hid (Below w.heap.size w w3) := HB2w.out.trans ((hb3.mono HB2w.out.size).trans (hk3.below HB2w.out.size (by simp; omega)))
        clear hk3 hb3 hrec y0 y1 y2 y3 y4 y5
        go_wp2
        go_ret
        exact ⟨by rw [HF2.out]; rfl, HB3w.out⟩

end Go.Proofs.YtcblknghkgihcaaDoor
