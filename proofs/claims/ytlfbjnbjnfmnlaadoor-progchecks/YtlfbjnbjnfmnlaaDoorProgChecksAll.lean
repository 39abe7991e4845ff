/-
  ProgChecks, for every input: the landed Check tells of a function what the document says, and the landed Print its text, as the reference does (or the function is greater than the law looks at), and the law's lives holds; the argument reads behind the call as it did ahead. Conditions: the function holds itself nowhere (the row's cell loops); the table of orders and the library's tables read as the row lays them (tied to the program's text by the card).
-/
import Derived.Test.YtlfbjnbjnfmnlaaDoorPgLives
import Derived.Test.YtlfbjnbjnfmnlaaDoorPgAlone
import Derived.Test.YtlfbjnbjnfmnlaaDoorPgPrn1
import Derived.Test.YtlfbjnbjnfmnlaaDoorPgClose
namespace Go.Proofs.YtlfbjnbjnfmnlaaDoor
set_option maxRecDepth 100000
open Go.RowKit Txt Pg

set_option maxHeartbeats 2000000 in
theorem refName_any (op : Int) (w : World) : Calls Tryd.prog 10 #[.int .i64 op] w fun e w' => e = .returned (.string (bs (rowOf op).1)) ∧ Below w.heap.size w w' := by
  have hI := fun w => ris_any op w
  by_cases c : 0 ≤ op ∧ op < 38
  · obtain ⟨r, rfl⟩ := Int.eq_ofNat_of_zero_le c.1
    have hr : r < 38 := by omega
    have h1 : isOp (r : Int) = true := by unfold isOp; simp; omega
    have hR : rowOf (r : Int) = ordL.getD r noRow := by unfold rowOf; rw [if_pos c]; rfl
    rw [hR]
    rw [h1] at hI
    obtain ⟨A, hA⟩ : ∃ A : Array Value, A = (ordL.map fun x => Value.string (bs x.1)).toArray := ⟨_, rfl⟩
    have hAr : A[r]? = some (.string (bs (ordL.getD r noRow).1)) := by
      rw [hA, List.getElem?_toArray, List.getElem?_map, List.getD_eq_getElem?_getD, List.getElem?_eq_getElem (show r < ordL.length from hr)]
      rfl
    generalize bs (ordL.getD r noRow).1 = X at *
    have hlt : (r : Int) < 38 := by omega
    clear c h1 hR
    go_enter Tryd.func10, Tryd.ntmps10
    go_wp2_with fail
    refine (hI _).mono ?_
    rintro e w1 ⟨rfl, rfl⟩
    go_wp2
    go_ret
    have key : ∀ (L : List Value) (h : r < L.length), L.toArray = A → L[r] = .string X := by
      intro L h e
      have := hAr
      rw [← e, List.getElem?_toArray, List.getElem?_eq_getElem h] at this
      injection this
    refine ⟨congrArg Ending.returned (key _ _ (by rw [hA]; rfl)), (Below.refl _ _).alloc (Nat.le_refl _) _⟩
  · have h1 : isOp op = false := by unfold isOp; simp; omega
    have hR : rowOf op = noRow := by unfold rowOf; rw [if_neg c]
    rw [hR]
    rw [h1] at hI
    clear c h1 hR
    go_enter Tryd.func10, Tryd.ntmps10
    go_wp2_with fail
    refine (hI _).mono ?_
    rintro e w1 ⟨rfl, rfl⟩
    go_wp2
    go_ret
    exact ⟨rfl, Below.refl _ _⟩

set_option maxHeartbeats 4000000 in
theorem refCost_any (op : Int) (w : World) : Calls Tryd.prog 12 #[.int .i64 op] w fun e w' => e = .returned (.int .i64 (rowOf op).2.1) ∧ w' = w := by
  have hI := fun w => ris_any op w
  by_cases c : 0 ≤ op ∧ op < 38
  · have h1 : isOp op = true := by unfold isOp; simp; omega
    have hR : (rowOf op).2.1 = if (op = 2 ∨ op = 3 ∨ op = 4 ∨ op = 29 ∨ op = 30 ∨ op = 31 ∨ op = 34) then 0 else 1 := by
      obtain ⟨r, rfl⟩ := Int.eq_ofNat_of_zero_le c.1
      have hr : r < 38 := by omega
      rw [show rowOf (r : Int) = ordL.getD r noRow by unfold rowOf; rw [if_pos c]; rfl, refCost_tab r hr]
      congr 1
      exact propext (by omega)
    rw [hR]
    rw [h1] at hI
    by_cases d : op = 2 ∨ op = 3 ∨ op = 4 ∨ op = 29 ∨ op = 30 ∨ op = 31 ∨ op = 34
    · rw [if_pos d]
      clear c h1 hR
      rcases d with rfl | rfl | rfl | rfl | rfl | rfl | rfl
      all_goals
        go_enter Tryd.func12, Tryd.ntmps12
        go_wp2_with fail
        refine (hI _).mono ?_
        rintro e w1 ⟨rfl, rfl⟩
        go_wp2
        go_ret
        exact ⟨rfl, rfl⟩
    · rw [if_neg d]
      have d1 : (op == 2) = false := by simp; omega
      have d2 : (op == 3) = false := by simp; omega
      have d3 : (op == 4) = false := by simp; omega
      have d4 : (op == 29) = false := by simp; omega
      have d5 : (op == 30) = false := by simp; omega
      have d6 : (op == 31) = false := by simp; omega
      have d7 : (op == 34) = false := by simp; omega
      clear c h1 hR d
      go_enter Tryd.func12, Tryd.ntmps12
      go_wp2_with fail
      refine (hI _).mono ?_
      rintro e w1 ⟨rfl, rfl⟩
      go_wp2
      go_ret
      exact ⟨rfl, rfl⟩
  · have h1 : isOp op = false := by unfold isOp; simp; omega
    have hR : rowOf op = noRow := by unfold rowOf; rw [if_neg c]
    rw [hR]
    rw [h1] at hI
    clear c h1 hR
    go_enter Tryd.func12, Tryd.ntmps12
    go_wp2_with fail
    refine (hI _).mono ?_
    rintro e w1 ⟨rfl, rfl⟩
    go_wp2
    go_ret
    exact ⟨rfl, rfl⟩

set_option maxHeartbeats 2000000 in
theorem progOrders_walk (op : Int) (w : World) (hT : Ot w) (hTB : TB w) :
    Calls Tryd.prog 3 #[.int .i64 op] w fun e w' => e = .returned (.bool true) ∧ Below w.heap.size w w' := by
  have h00 := hT.1
  have HT := hide_p hT
  have HTB := hide_p hTB
  have H1 := pname_any op w hT
  have H2 := fun w => refName_any op w
  have H3 : Hid (∀ w, Ot w → Calls Tryd.prog 11 #[.int .i64 op] w fun e w' => e = .returned (.int .i64 (rowOf op).2.1) ∧ Below w.heap.size w w') := fun w h => pcost_any op w h
  have H4 := fun w => refCost_any op w
  generalize bs (rowOf op).1 = X at *
  generalize (rowOf op).2.1 = Y at *
  clear hT hTB
  go_enter Tryd.func3, Tryd.ntmps3
  go_wp2_with fail
  refine H1.mono ?_
  rintro e w1 ⟨rfl, hb1⟩
  have HB1 := hide_p hb1
  clear hb1 H1
  go_wp2_with fail
  refine (H2 _).mono ?_
  rintro e w2 ⟨rfl, hb2⟩
  have HB2 : Hid (Below w.heap.size w w2) := HB1.out.trans (hb2.mono HB1.out.size)
  clear hb2
  go_wp2_with fail
  refine (H3.out _ (HT.out.below HB2.out h00)).mono ?_
  rintro e w3 ⟨rfl, hb3⟩
  have HB3 : Hid (Below w.heap.size w w3) := HB2.out.trans (hb3.mono HB2.out.size)
  clear hb3
  go_wp2_with fail
  refine (H4 _).mono ?_
  rintro e w4 ⟨rfl, rfl⟩
  go_wp2_with fail
  refine (glives_any _ (HT.out.below HB3.out h00) (HTB.out.below HB3.out)).mono ?_
  rintro e w5 ⟨rfl, hb5⟩
  have HB5 : Hid (Below w.heap.size w w5) := HB3.out.trans (hb5.mono HB3.out.size)
  clear hb5
  go_wp2
  go_ret
  exact ⟨rfl, HB5.out⟩

end Go.Proofs.YtlfbjnbjnfmnlaaDoor
namespace Go.Proofs.YtlfbjnbjnfmnlaaDoor
set_option maxRecDepth 100000
open Go.RowKit Txt Pg Flo

theorem chkL_le : ∀ (ps : List Pr) (rg : Int) (nu d n m : Nat), (∀ q ∈ ps, ∀ n' m', chkT q rg nu d n' = (m', 0) → m' ≤ 4096) → n ≤ 4096 → chkL rg nu d n ps = (m, 0) → m ≤ 4096
  | [], _, _, _, n, m, _, hn, h => by
    have : (n, (0 : Int)) = (m, 0) := h
    injection this with h1 _
    omega
  | p :: ps, rg, nu, d, n, m, hq, hn, h => by
    have h1 : chkL rg nu d n (p :: ps) = ps.foldl (fun r q => if r.2 = 0 then chkT q rg nu d r.1 else r) (chkT p rg nu d n) := rfl
    rw [h1] at h
    by_cases c : (chkT p rg nu d n).2 = 0
    · obtain ⟨n1, hn1⟩ : ∃ n1, chkT p rg nu d n = (n1, 0) := ⟨(chkT p rg nu d n).1, Prod.ext rfl c⟩
      rw [hn1] at h
      exact chkL_le ps rg nu d n1 m (fun q hq' => hq q (List.mem_cons_of_mem _ hq')) (hq p List.mem_cons_self n n1 hn1) h
    · rw [fold_bad (fun r q h => if_neg h) _ _ c] at h
      rw [h] at c
      exact absurd rfl c
theorem chkT_le : ∀ (t : Pr) (rg : Int) (nu d n m : Nat), chkT t rg nu d n = (m, 0) → m ≤ 4096 := by
  refine Pr.ind' fun pa rg us cs ks ps ih => ?_
  intro arg anu d n m h
  rw [chkT_mk] at h
  split at h
  · cases h
  · split at h
    · cases h
    · next c1 c2 =>
      simp only [Bool.or_eq_true, decide_eq_true_eq, not_or] at c1
      exact chkL_le ps _ _ _ _ _ (fun q hq n' m' h' => ih q hq _ _ _ _ _ h') (by omega) h

/-- The same, also for a whole script. -/
def chkG (t : Pr) (arg : Int) (anu deep n : Nat) : Nat × Int :=
  if (longB t.rg t.cs.length t.ks.length t.us.length || decide (deep > 100) || decide (n + 1 > 4096)) = true then (n + 1, 2)
  else if badB t arg anu (decide (deep = 0)) = true then (n + 1, 1)
  else chkL t.rg t.us.length (deep + 1) (n + 1) t.ps
theorem chkG_T (t : Pr) (arg : Int) (anu deep n : Nat) (h : 0 < deep) : chkG t arg anu deep n = chkT t arg anu deep n := by
  obtain ⟨pa, rg, us, cs, ks, ps⟩ := t
  rw [chkT_mk]
  unfold chkG badB
  rw [show decide (deep = 0) = false by simp; omega]
  simp
theorem chkG_B (t : Pr) : (chkG t 0 0 0 0).2 = chkB t := by
  obtain ⟨pa, rg, us, cs, ks, ps⟩ := t
  unfold chkG chkB badB
  simp only [Nat.zero_add, show decide ((0 : Nat) > 100) = false from rfl, show decide ((1 : Nat) > 4096) = false from rfl, Bool.or_false, decide_true, Bool.true_and]
  by_cases c1 : longB rg cs.length ks.length us.length = true
  · rw [if_pos c1, if_pos c1]
  · rw [if_neg c1, if_neg c1]
    cases us with
    | nil => simp [findB]; split <;> rfl
    | cons u us => simp

set_option maxHeartbeats 1000000 in
theorem rcheck_any : ∀ (t : Pr) (x : Six) (pa' rg' : Int) (au' : Option Addr) (nu' cu' : Nat) (vc' vk' vp' : Value) (deep n : Nat) (w : World), PR w t x → deep ≤ 101 → n ≤ 4096 →
    Calls Tryd.prog 39 #[x.v, .agg #[.int .i64 pa', .int .i64 rg', .slice au' nu' cu', vc', vk', vp'], .int .i64 deep, .int .i64 n] w fun e w' => e = .returned (.tuple #[.int .i64 (chkG t rg' nu' deep n).1, .int .i64 (chkG t rg' nu' deep n).2]) ∧ Below w.heap.size w w' := by
  refine Pr.ind' fun pa rg us cs ks ps ih => ?_
  intro x pa' rg' au' nu' cu' vc' vk' vp' deep n w h hdeep hn
  have HPR := hide_p h
  rw [PR_mk] at h
  obtain ⟨xpa, xrg, vu, vc, vk, vp⟩ := x
  simp only at h
  obtain ⟨rfl, rfl, hpa, hrg, hu, hc, hk, f, hp, hch⟩ := h
  obtain ⟨au, cu, rfl, -, -, lu⟩ := hu.1.val
  obtain ⟨ac, cc, rfl, -, -, lc⟩ := hc.1.val
  obtain ⟨ak, ck, rfl, -, -, lk⟩ := hk.1.val
  obtain ⟨ap, cp, rfl, hpl, hpc, lp⟩ := hp.val
  have HAL : Hid (∀ w', Below w.heap.size w w' → Calls Tryd.prog 65 #[.agg #[.int .i64 xpa, .int .i64 xrg, .slice au us.length cu, .slice ac cs.length cc, .slice ak ks.length ck, .slice ap ps.length cp], .agg #[.int .i64 pa', .int .i64 rg', .slice au' nu' cu', vc', vk', vp'], .bool (decide ((deep : Int) = 0))] w' fun e w'' => e = .returned (.int .i64 (if badB (.mk xpa xrg us cs ks ps) rg' nu' (decide (deep = 0)) then 1 else 0)) ∧ Below w'.heap.size w' w'') := fun w' hb => by
    have := alone_any (.mk xpa xrg us cs ks ps) _ pa' rg' au' nu' cu' vc' vk' vp' (decide (deep = 0)) w' (PR.kept hb (Nat.le_refl _) _ _ HPR.out)
    simp only [Six.v] at this
    rw [show decide ((deep : Int) = 0) = decide (deep = 0) by simp]
    exact this
  have HG : Hid (chkG (.mk xpa xrg us cs ks ps) rg' nu' deep n = if (longB xrg cs.length ks.length us.length || decide (deep > 100) || decide (n + 1 > 4096)) = true then (n + 1, 2)
      else if badB (.mk xpa xrg us cs ks ps) rg' nu' (decide (deep = 0)) = true then (n + 1, 1)
      else chkL xrg us.length (deep + 1) (n + 1) ps) := rfl
  obtain ⟨zb, HZB⟩ : ∃ z, Hid (badB (.mk xpa xrg us cs ks ps) rg' nu' (decide (deep = 0)) = z) := ⟨_, rfl⟩
  rw [HZB.out] at HG HAL
  obtain ⟨⟨m0, e0⟩, hr0⟩ : ∃ r, r = chkG (.mk xpa xrg us cs ks ps) rg' nu' deep n := ⟨_, rfl⟩
  rw [← hr0] at HG ⊢
  clear hr0
  unfold Six.v
  simp only
  have HI : Hid _ := ih
  have HCH := (show Hid (∀ i (h : i < ps.length), PR w ps[i] (f i)) from hch)
  obtain ⟨nu, hnu⟩ : ∃ n, n = us.length := ⟨_, rfl⟩
  obtain ⟨nc, hnc⟩ : ∃ n, n = cs.length := ⟨_, rfl⟩
  obtain ⟨nk, hnk⟩ : ∃ n, n = ks.length := ⟨_, rfl⟩
  obtain ⟨np, hnp⟩ : ∃ n, n = ps.length := ⟨_, rfl⟩
  have HNP := hide_p hnp
  have HSP : Hid (SL w (.slice ap np cp) ps.length 6 (fun i j u => u = (f i).at j)) := by rw [hnp]; exact hp
  rw [← hnu, ← hnc, ← hnk] at HG
  rw [← hnu, ← hnc, ← hnk, ← hnp] at HAL ⊢
  rw [← hnp] at hpl lp
  unfold far at lp
  clear hu hc hk hp hch ih hnu hnc hnk hnp lu lc lk
  obtain ⟨w0, hw0⟩ : ∃ w0, w0 = (w.alloc (.cells #[.int .i64 xpa, .int .i64 xrg, .slice au nu cu, .slice ac nc cc, .slice ak nk ck, .slice ap np cp] 31)).alloc (.cells #[.int .i64 pa', .int .i64 rg', .slice au' nu' cu', vc', vk', vp'] 31) := ⟨_, rfl⟩
  have HB0 : Hid (Below w.heap.size w w0) := by rw [hw0]; exact ((Below.refl _ w).alloc (Nat.le_refl _) _).alloc (by simp) _
  have HA : Hid (∀ j, w0.cell? ⟨w.heap.size, j, none⟩ = (#[.int .i64 xpa, .int .i64 xrg, .slice au nu cu, .slice ac nc cc, .slice ak nk ck, .slice ap np cp] : Array Value)[j]?) := by
    intro j
    rw [hw0, World.cell?_alloc_lt _ _ _ (by simp), World.cell?_alloc_new]
  have HD : Hid (∀ j, w0.cell? ⟨w.heap.size + 1, j, none⟩ = (#[.int .i64 pa', .int .i64 rg', .slice au' nu' cu', vc', vk', vp'] : Array Value)[j]?) := by
    intro j
    rw [hw0, World.cell?_alloc_at _ _ _ _ (by simp)]
  have q0 : w0.cell? ⟨w.heap.size, 0, none⟩ = some (.int .i64 xpa) := HA.out 0
  have q1 : w0.cell? ⟨w.heap.size, 1, none⟩ = some (.int .i64 xrg) := HA.out 1
  have q2 : w0.cell? ⟨w.heap.size, 2, none⟩ = some (.slice au nu cu) := HA.out 2
  have q3 : w0.cell? ⟨w.heap.size, 3, none⟩ = some (.slice ac nc cc) := HA.out 3
  have q4 : w0.cell? ⟨w.heap.size, 4, none⟩ = some (.slice ak nk ck) := HA.out 4
  have q5 : w0.cell? ⟨w.heap.size, 5, none⟩ = some (.slice ap np cp) := HA.out 5
  have s0 : w0.cell? ⟨w.heap.size + 1, 0, none⟩ = some (.int .i64 pa') := HD.out 0
  have s1 : w0.cell? ⟨w.heap.size + 1, 1, none⟩ = some (.int .i64 rg') := HD.out 1
  have s2 : w0.cell? ⟨w.heap.size + 1, 2, none⟩ = some (.slice au' nu' cu') := HD.out 2
  have s3 : w0.cell? ⟨w.heap.size + 1, 3, none⟩ = some vc' := HD.out 3
  have s4 : w0.cell? ⟨w.heap.size + 1, 4, none⟩ = some vk' := HD.out 4
  have s5 : w0.cell? ⟨w.heap.size + 1, 5, none⟩ = some vp' := HD.out 5
  obtain ⟨zl, HZL⟩ : ∃ z, Hid ((longB xrg nc nk nu || decide (deep > 100) || decide (n + 1 > 4096)) = z) := ⟨_, rfl⟩
  rw [HZL.out] at HG
  go_enter Tryd.func39, Tryd.ntmps39
  go_upto_region 2 with fail
  rw [← hw0]
  clear hw0
  go_cut [44] (fun t44 wx => t44 = .bool zl ∧ wx = w0)
  case first =>
    by_cases d1 : xrg > 4096
    · have hz : zl = true := by rw [← HZL.out]; simp [longB]; omega
      subst hz
      go_wp2_with fail
      go_meet
      exact ⟨rfl, rfl⟩
    by_cases d2 : (nc : Int) > 131072
    · have hz : zl = true := by rw [← HZL.out]; simp [longB]; omega
      subst hz
      go_wp2_with fail
      go_meet
      exact ⟨rfl, rfl⟩
    by_cases d3 : (nk : Int) > 131072
    · have hz : zl = true := by rw [← HZL.out]; simp [longB]; omega
      subst hz
      go_wp2_with fail
      go_meet
      exact ⟨rfl, rfl⟩
    by_cases d4 : (nu : Int) > 60
    · have hz : zl = true := by rw [← HZL.out]; simp [longB]; omega
      subst hz
      go_wp2_with fail
      go_meet
      exact ⟨rfl, rfl⟩
    by_cases d5 : (deep : Int) > 100
    · have hz : zl = true := by rw [← HZL.out]; simp [longB]; omega
      subst hz
      go_wp2_with fail
      go_meet
      exact ⟨rfl, rfl⟩
    by_cases d6 : (n : Int) + 1 > 4096
    · have hz : zl = true := by rw [← HZL.out]; simp [longB]; omega
      subst hz
      go_wp2_with fail
      go_meet
      exact ⟨rfl, rfl⟩
    · have hz : zl = false := by rw [← HZL.out]; simp [longB]; omega
      subst hz
      go_wp2_with fail
      go_meet
      exact ⟨rfl, rfl⟩
  case rest =>
    obtain ⟨rfl, hwc⟩ := hcut
    have hwc2 := hwc.symm
    clear hwc
    subst hwc2
    cases zl with
    | true =>
      have HE : Hid (m0 = n + 1 ∧ e0 = 2) := by
        have := HG.out
        rw [if_pos rfl] at this
        injection this with h1 h2
        exact ⟨h1, h2⟩
      go_wp2
      go_ret2
      exact ⟨by rw [HE.out.1, HE.out.2]; rfl, HB0.out⟩
    | false =>
      have HL4 : Hid (deep ≤ 100 ∧ n + 1 ≤ 4096) := by
        have := HZL.out
        simp only [Bool.or_eq_false_iff, decide_eq_false_iff_not] at this
        show _ ∧ _
        omega
      have hl4 := HL4.out
      obtain ⟨zi, hzi⟩ : ∃ zi : Int, zi = if zb = true then 1 else 0 := ⟨_, rfl⟩
      rw [← hzi] at HAL
      have HZI := hide_p hzi
      clear hzi
      go_upto_region 4 with fail
      go_cut [10] (fun t10 wx => t10 = .int .i64 zi ∧ Hid (Below w0.heap.size w0 wx))
      case first =>
        have hal := HAL.out w0 HB0.out
        rcases Nat.eq_zero_or_pos deep with hd | hd
        · subst hd
          rw [show decide (((0 : Nat) : Int) = 0) = true from rfl] at hal
          go_wp2_with fail
          refine hal.mono ?_
          rintro e w1 ⟨rfl, hb1⟩
          have HB1 := hide_p hb1
          clear hal hb1
          go_wp2_with fail
          go_meet
          exact ⟨rfl, HB1⟩
        · have hne : ¬ (deep : Int) = 0 := by omega
          have hne2 : ((deep : Int) == 0) = false := by simp; omega
          rw [show decide ((deep : Int) = 0) = false by simp; omega] at hal
          go_wp2_with fail
          refine hal.mono ?_
          rintro e w1 ⟨rfl, hb1⟩
          have HB1 := hide_p hb1
          clear hal hb1
          go_wp2_with fail
          go_meet
          exact ⟨rfl, HB1⟩
      case rest =>
        obtain ⟨rfl, HB1⟩ := hcut
        clear q0 q1 q2 q3 q4 q5 s0 s1 s2 s3 s4 s5 HAL
        cases zb with
        | true =>
          obtain rfl : zi = 1 := HZI.out
          have HE : Hid (m0 = n + 1 ∧ e0 = 1) := by
            have := HG.out
            rw [if_neg (by simp), if_pos rfl] at this
            injection this with h1 h2
            exact ⟨h1, h2⟩
          go_wp2
          go_ret2
          exact ⟨by rw [HE.out.1, HE.out.2]; rfl, HB0.out.trans (HB1.out.mono HB0.out.size)⟩
        | false =>
          obtain rfl : zi = 0 := HZI.out
          have HG2 : Hid ((m0, e0) = chkL xrg nu (deep + 1) (n + 1) ps) := by
            have := HG.out
            rw [if_neg (by simp), if_neg (by simp)] at this
            exact this
          clear HG
          go_wp2_with fail
          go_loopw [3, 11, 12, 13] (fun t3 t11 t12 t13 wr => ∃ (i m : Nat), i ≤ np ∧ t11 = .int .i64 i ∧ t3 = .int .i64 m ∧ m ≤ 4096 ∧ Hid (chkL xrg nu (deep + 1) (n + 1) (ps.take i) = (m, 0)) ∧ Hid (Below w0.heap.size w0 wr)) (fun _ t11 _ _ _ => np - (intOf t11).toNat)
          case atStart => exact ⟨0, n + 1, Nat.zero_le _, rfl, by simp, by omega, rfl, HB1⟩
          case round =>
            obtain ⟨i, m, hi, rfl, rfl, hm, HL, HB⟩ := hrel
            have HBw : Hid (Below w.heap.size w wr) := HB0.out.trans (HB.out.mono HB0.out.size)
            have r5 : wr.cell? ⟨w.heap.size, 5, none⟩ = some (.slice ap np cp) := box6 HA.out HB.out (Nat.le_refl _) rfl
            by_cases c : i < np
            · have i1 : i < ps.length := by rw [← HNP.out]; exact c
              obtain ⟨-, g, o, rfl, f0, f1, f2, f3, f4, f5⟩ := SP.get (HSP.out.kept HBw.out (Nat.le_refl _)) i1
              have HTK : Hid (chkL xrg nu (deep + 1) (n + 1) (ps.take (i + 1)) = chkT ps[i] xrg nu (deep + 1) m) := chkL_take xrg nu (deep + 1) (n + 1) ps i i1 m HL.out
              have HST : Hid (∀ r, chkT ps[i] xrg nu (deep + 1) m = r → r.2 ≠ 0 → chkL xrg nu (deep + 1) (n + 1) ps = r) := fun r e hr => chkL_stop xrg nu (deep + 1) (n + 1) ps (i + 1) r (HTK.out.trans e) hr
              have HLE : Hid (∀ m', chkT ps[i] xrg nu (deep + 1) m = (m', 0) → m' ≤ 4096) := fun m' e => chkT_le _ _ _ _ _ _ e
              have HC : Hid (∀ p : BelowOf wr, Calls Tryd.prog 39 #[(f i).v, .agg #[.int .i64 xpa, .int .i64 xrg, .slice au nu cu, .slice ac nc cc, .slice ak nk ck, .slice (some ⟨g, o, none⟩) np cp], .int .i64 ((deep + 1 : Nat) : Int), .int .i64 m] p.u fun e w' => e = .returned (.tuple #[.int .i64 (chkT ps[i] xrg nu (deep + 1) m).1, .int .i64 (chkT ps[i] xrg nu (deep + 1) m).2]) ∧ Below p.u.heap.size p.u w') := fun p => by
                have := HI.out ps[i] (List.getElem_mem i1) (f i) xpa xrg au nu cu (.slice ac nc cc) (.slice ak nk ck) (.slice (some ⟨g, o, none⟩) np cp) (deep + 1) m p.u (PR.kept (HBw.out.trans (p.h.mono HBw.out.size)) (Nat.le_refl _) _ _ (HCH.out i i1)) (by omega) hm
                rw [chkG_T _ _ _ _ _ (by omega)] at this
                exact this
              generalize hrr : chkT ps[i] xrg nu (deep + 1) m = rr at *
              obtain ⟨m2, e2⟩ := rr
              clear hrr
              unfold Six.v at HC
              generalize f i = y at *
              obtain ⟨ypa, yrg, yu, yc, yk, yp⟩ := y
              simp only at f0 f1 f2 f3 f4 f5 HC
              rw [show ((deep + 1 : Nat) : Int) = (deep : Int) + 1 by omega] at HC
              have p0 : ∀ p : BelowOf wr, p.u.cell? ⟨w.heap.size, 0, none⟩ = some (.int .i64 xpa) := fun p => cell_kept p.h (Nat.le_refl _) (box6 HA.out HB.out (Nat.le_refl _) rfl)
              have p1 : ∀ p : BelowOf wr, p.u.cell? ⟨w.heap.size, 1, none⟩ = some (.int .i64 xrg) := fun p => cell_kept p.h (Nat.le_refl _) (box6 HA.out HB.out (Nat.le_refl _) rfl)
              have p2 : ∀ p : BelowOf wr, p.u.cell? ⟨w.heap.size, 2, none⟩ = some (.slice au nu cu) := fun p => cell_kept p.h (Nat.le_refl _) (box6 HA.out HB.out (Nat.le_refl _) rfl)
              have p3 : ∀ p : BelowOf wr, p.u.cell? ⟨w.heap.size, 3, none⟩ = some (.slice ac nc cc) := fun p => cell_kept p.h (Nat.le_refl _) (box6 HA.out HB.out (Nat.le_refl _) rfl)
              have p4 : ∀ p : BelowOf wr, p.u.cell? ⟨w.heap.size, 4, none⟩ = some (.slice ak nk ck) := fun p => cell_kept p.h (Nat.le_refl _) (box6 HA.out HB.out (Nat.le_refl _) rfl)
              have p5 : ∀ p : BelowOf wr, p.u.cell? ⟨w.heap.size, 5, none⟩ = some (.slice (some ⟨g, o, none⟩) np cp) := fun p => cell_kept p.h (Nat.le_refl _) r5
              have t0 : ∀ p : BelowOf wr, p.u.cell? ⟨g, o + i * 6, none⟩ = some (.int .i64 ypa) := fun p => cell_kept p.h (Nat.le_refl _) f0
              have t1 : ∀ p : BelowOf wr, p.u.cell? ⟨g, o + i * 6 + 1, none⟩ = some (.int .i64 yrg) := fun p => cell_kept p.h (Nat.le_refl _) f1
              have t2 : ∀ p : BelowOf wr, p.u.cell? ⟨g, o + i * 6 + 2, none⟩ = some yu := fun p => cell_kept p.h (Nat.le_refl _) f2
              have t3 : ∀ p : BelowOf wr, p.u.cell? ⟨g, o + i * 6 + 3, none⟩ = some yc := fun p => cell_kept p.h (Nat.le_refl _) f3
              have t4 : ∀ p : BelowOf wr, p.u.cell? ⟨g, o + i * 6 + 4, none⟩ = some yk := fun p => cell_kept p.h (Nat.le_refl _) f4
              have t5 : ∀ p : BelowOf wr, p.u.cell? ⟨g, o + i * 6 + 5, none⟩ = some yp := fun p => cell_kept p.h (Nat.le_refl _) f5
              have hInh : Inhabited (BelowOf wr) := ⟨⟨wr, Below.refl _ _⟩⟩
              have hwr : IntKind.i64.wrap ((deep : Int) + 1) = (deep : Int) + 1 := by rw [IntKind.wrap_i64]; omega
              clear f0 f1 f2 f3 f4 f5
              go_wp2_with fail
              refine wp_region_below (by kernel_rfl) (by kernel_rfl) ?_
              repeat (quiet_step (fail))
              quiet_step ((go_at_call 39; exact below_of (HC.out _)))
              repeat (quiet_step (fail))
              refine wpQuiet_nil ?_
              intro wq hw'
              obtain ⟨⟨w9, hwq⟩, hw''⟩ := hw'
              subst hw''
              have HBq : Hid (Below w0.heap.size w0 wq) := HB.out.trans (hwq.mono HB.out.size)
              clear p0 p1 p2 p3 p4 p5 t0 t1 t2 t3 t4 t5 hwq HC r5
              by_cases d3 : e2 = 0
              · subst d3
                have hm6 : m2 ≤ 4096 := HLE.out m2 rfl
                have HTK2 : Hid (chkL xrg nu (deep + 1) (n + 1) (ps.take (i + 1)) = (m2, 0)) := HTK.out
                clear HST HLE HTK
                go_wp2
                go_roundw
                case rel => first | exact ⟨i + 1, m2, by omega, by go_num, rfl, hm6, HTK2, HBq⟩ | exact ⟨i + 1, m2, by omega, by go_num, by go_num, hm6, HTK2, HBq⟩
                case measure => simp [intOf]; omega
              · have d4 : (e2 != 0) = true := by simp [d3]
                have HE : Hid (m0 = m2 ∧ e0 = e2) := by
                  have h1 := HST.out (m2, e2) rfl d3
                  have h2 := HG2.out
                  rw [h1] at h2
                  injection h2 with h3 h4
                  exact ⟨h3, h4⟩
                clear HST HLE HTK
                go_wp2
                go_ret2
                exact ⟨by rw [HE.out.1, HE.out.2]; rfl, HB0.out.trans (HBq.out.mono HB0.out.size)⟩
            · have e : i = np := by omega
              have HE : Hid (m0 = m ∧ e0 = 0) := by
                have h1 := HL.out
                rw [List.take_of_length_le (by rw [← HNP.out]; omega)] at h1
                have h2 := HG2.out
                rw [h1] at h2
                injection h2 with h3 h4
                exact ⟨h3, h4⟩
              subst e
              go_wp2
              go_ret2
              exact ⟨by rw [HE.out.1, HE.out.2]; rfl, HBw.out⟩

set_option maxHeartbeats 2000000 in
theorem rCheck_any (t : Pr) (x : Six) (w : World) (h : PR w t x) :
    Calls Tryd.prog 17 #[x.v] w fun e w' => e = .returned (.int .i64 (chkB t)) ∧ Below w.heap.size w w' := by
  have HP := hide_p h
  obtain ⟨a1, n1, c1, a2, n2, c2, a3, n3, c3, a4, n4, c4, h1, h2, h3, h4⟩ := six_form (PR.prs _ _ h)
  obtain ⟨pa, rg, vu, vc, vk, vp⟩ := x
  simp only at h1 h2 h3 h4
  subst h1 h2 h3 h4
  have hc := rcheck_any t _ 0 0 none 0 0 (.slice none 0 0) (.slice none 0 0) (.slice none 0 0) 0 0 (w.alloc (.cells #[.int .i64 pa, .int .i64 rg, .slice a1 n1 c1, .slice a2 n2 c2, .slice a3 n3 c3, .slice a4 n4 c4] 31)) (PR.kept ((Below.refl _ _).alloc (Nat.le_refl _) _) (Nat.le_refl _) _ _ HP.out) (by decide) (by decide)
  rw [chkG_B] at hc
  unfold Six.v at hc ⊢
  simp only at hc ⊢
  rw [show ((0 : Nat) : Int) = 0 from rfl] at hc
  generalize (chkG t 0 0 0 0).1 = m0 at *
  clear h
  go_enter Tryd.func17, Tryd.ntmps17
  go_wp2_with fail
  refine hc.mono ?_
  rintro e w1 ⟨rfl, hb⟩
  have HB : Hid (Below w.heap.size w w1) := ((Below.refl _ w).alloc (Nat.le_refl _) _).trans (hb.mono (by simp))
  clear hc hb
  go_wp2
  go_ret
  exact ⟨rfl, HB.out⟩

end Go.Proofs.YtlfbjnbjnfmnlaaDoor
namespace Go.Proofs.YtlfbjnbjnfmnlaaDoor
set_option maxRecDepth 100000
open Go.RowKit Txt Pg

theorem conv1 (w : World) (d : Nat) : (convert 69 9 (.slice (some ⟨w.heap.size, 0, none⟩) 1 1)).run Tryd.prog (w.alloc (.cells #[.int .u8 (d : Int)] 5)) = .ok (.string (bs [UInt8.ofNat d])) (w.alloc (.cells #[.int .u8 (d : Int)] 5)) := by
  have := run_convert_bytes_arg (P := Tryd.prog) (w.alloc (.cells #[.int .u8 (d : Int)] 5)) 69 5 Tryd.underlying69 Tryd.underlying5 w.heap.size 0 1 1 [(d : Int)] rfl (fun i hi => by
    have : i = 0 := by omega
    subst this
    rw [World.cell?_alloc_new]
    rfl) 9 Tryd.underlying9
  rw [this]
  rfl

set_option maxHeartbeats 2000000 in
theorem rdec_any : ∀ (n : Nat) (w : World), n < 18446744073709551616 → Calls Tryd.prog 94 #[.int .u64 n] w fun e w' => e = .returned (.string (bs (Lib.decDigits n))) ∧ Below w.heap.size w w' := by
  intro n
  induction n using Nat.strongRecOn with
  | _ n ih =>
  intro w hn
  have hcv := fun w => conv1 w (48 + n % 10)
  have hk : ((48 + n % 10 : Nat) : Int) = 48 + (n : Int) % 10 := by omega
  rw [hk] at hcv
  have hm1 : (0 : Int) ≤ (n : Int) % 10 := by omega
  have hm2 : (n : Int) % 10 < 10 := by omega
  by_cases c : n < 10
  · have HD : Hid (Lib.decDigits n = [UInt8.ofNat (48 + n % 10)]) := by
      show _ = _
      rw [Lib.decDigits, dif_pos c, Nat.mod_eq_of_lt c]
    rw [HD.out]
    have c1 : ¬ (n : Int) ≥ 10 := by omega
    generalize bs [UInt8.ofNat (48 + n % 10)] = S at *
    go_enter Tryd.func94, Tryd.ntmps94
    go_wp2
    go_ret
    exact ⟨rfl, (Below.refl _ _).alloc (Nat.le_refl _) _⟩
  · have HD : Hid (Lib.decDigits n = Lib.decDigits (n / 10) ++ [UInt8.ofNat (48 + n % 10)]) := by
      show _ = _
      rw [Lib.decDigits, dif_neg c]
    have hrec := fun w => ih (n / 10) (by omega) w (by omega)
    have hlen : (Lib.decDigits (n / 10)).length ≤ 20 := by
      rw [Lib.decDigits_length]
      have := nDigits_le 19 (n / 10) (by omega)
      omega
    have hs1 := bs_size (Lib.decDigits (n / 10))
    have hs2 := bs_size [UInt8.ofNat (48 + n % 10)]
    have HX : Hid (bs (Lib.decDigits (n / 10)) ++ bs [UInt8.ofNat (48 + n % 10)] = bs (Lib.decDigits n)) := by
      show _ = _
      rw [bs_append, HD.out]
    rw [← HX.out]
    rw [List.length_singleton] at hs2
    have hq : ((n / 10 : Nat) : Int) = (n : Int) / 10 := by omega
    rw [hq] at hrec
    have c1 : (n : Int) ≥ 10 := by omega
    have hcc : ¬ 9223372036854775807 < (Lib.decDigits (n / 10)).length + 1 := by omega
    generalize bs [UInt8.ofNat (48 + n % 10)] = S at *
    generalize bs (Lib.decDigits (n / 10)) = S1 at *
    generalize (Lib.decDigits (n / 10)).length = l1 at *
    clear hq HX HD ih
    go_enter Tryd.func94, Tryd.ntmps94
    go_wp2_with fail
    refine (hrec _).mono ?_
    rintro e w1 ⟨rfl, hb⟩
    have HB : Hid (Below w.heap.size w w1) := ((Below.refl _ w).alloc (Nat.le_refl _) _).trans (hb.mono (by simp))
    clear hb hrec
    go_wp2
    go_ret
    exact ⟨rfl, HB.out⟩

set_option maxHeartbeats 2000000 in
theorem signed_any (n : Int) (w : World) (hn : i64 n) : Calls Tryd.prog 93 #[.int .i64 n] w fun e w' => e = .returned (.string (bs (Lib.itoa n))) ∧ Below w.heap.size w w' := by
  unfold i64 at hn
  by_cases c : n < 0
  · have HX : Hid ((⟨#[45]⟩ : ByteArray) ++ bs (Lib.decDigits n.natAbs) = bs (Lib.itoa n)) := by
      show _ = _
      rw [show (⟨#[45]⟩ : ByteArray) = bs [45] from rfl, bs_append]
      unfold Lib.itoa
      rw [if_pos c]
      rfl
    rw [← HX.out]
    have hrec := fun w => rdec_any n.natAbs w (by omega)
    have hlen := nDigits_le 19 n.natAbs (by omega)
    rw [← Lib.decDigits_length] at hlen
    have hs1 := bs_size (Lib.decDigits n.natAbs)
    have hcc : ¬ 9223372036854775807 < 1 + (Lib.decDigits n.natAbs).length := by omega
    have hq : ((n.natAbs : Nat) : Int) = -(n + 1) + 1 := by omega
    rw [hq] at hrec
    generalize bs (Lib.decDigits n.natAbs) = S1 at *
    generalize (Lib.decDigits n.natAbs).length = l1 at *
    clear hq HX
    go_enter Tryd.func93, Tryd.ntmps93
    go_wp2_with fail
    refine (hrec _).mono ?_
    rintro e w1 ⟨rfl, hb⟩
    go_wp2
    go_ret
    exact ⟨rfl, hb⟩
  · have HX : Hid (Lib.itoa n = Lib.decDigits n.toNat) := by show _ = _; unfold Lib.itoa; rw [if_neg c]
    rw [HX.out]
    have hrec := fun w => rdec_any n.toNat w (by omega)
    have hq : ((n.toNat : Nat) : Int) = n := by omega
    rw [hq] at hrec
    generalize bs (Lib.decDigits n.toNat) = S1 at *
    clear hq HX
    go_enter Tryd.func93, Tryd.ntmps93
    go_wp2_with fail
    refine (hrec _).mono ?_
    rintro e w1 ⟨rfl, hb⟩
    go_wp2
    go_ret
    exact ⟨rfl, hb⟩

set_option maxHeartbeats 4000000 in
theorem show_any (n : Int) (w : World) (hn : i64 n) : Calls Tryd.prog 68 #[.agg #[.int .i64 n, .int .i64 0, .string ⟨#[]⟩, .int .u64 0, .int .i64 0, .int .i64 0, .slice none 0 0, .slice none 0 0]] w fun e w' => e = .returned (.string (bs (40 :: (Lib.itoa n ++ [41])))) ∧ Below w.heap.size w w' := by
  have hsg := fun w => signed_any n w hn
  have hlen := itoa_len n hn
  have hs1 := bs_size (Lib.itoa n)
  have HX : Hid ((⟨#[40]⟩ : ByteArray) ++ bs (Lib.itoa n) ++ (⟨#[41]⟩ : ByteArray) = bs (40 :: (Lib.itoa n ++ [41]))) := by
    show _ = _
    rw [show (⟨#[40]⟩ : ByteArray) = bs [40] from rfl, show (⟨#[41]⟩ : ByteArray) = bs [41] from rfl, bs_append, bs_append, List.append_assoc]
    rfl
  rw [← HX.out]
  have hcc : ¬ 9223372036854775807 < 1 + (Lib.itoa n).length := by omega
  have hcc2 : ¬ 9223372036854775807 < 1 + (Lib.itoa n).length + 1 := by omega
  generalize bs (Lib.itoa n) = S1 at *
  generalize (Lib.itoa n).length = l1 at *
  obtain ⟨w0, hw0⟩ : ∃ w0, w0 = w.alloc (.cells #[.int .i64 n, .int .i64 0, .string ⟨#[]⟩, .int .u64 0, .int .i64 0, .int .i64 0, .slice none 0 0, .slice none 0 0] 113) := ⟨_, rfl⟩
  have HB0 : Hid (Below w.heap.size w w0) := by rw [hw0]; exact (Below.refl _ w).alloc (Nat.le_refl _) _
  have HA : Hid (∀ j, w0.cell? ⟨w.heap.size, j, none⟩ = (#[.int .i64 n, .int .i64 0, .string ⟨#[]⟩, .int .u64 0, .int .i64 0, .int .i64 0, .slice none 0 0, .slice none 0 0] : Array Value)[j]?) := by
    intro j
    rw [hw0, World.cell?_alloc_new]
  have q0 : w0.cell? ⟨w.heap.size, 0, none⟩ = some (.int .i64 n) := HA.out 0
  clear HX
  go_enter Tryd.func68, Tryd.ntmps68
  go_upto_region 1 with fail
  rw [← hw0]
  clear hw0
  go_wp2_with fail
  refine (hsg _).mono ?_
  rintro e w1 ⟨rfl, hb⟩
  have HB1 : Hid (Below w.heap.size w w1) := HB0.out.trans (hb.mono HB0.out.size)
  have r2 : w1.cell? ⟨w.heap.size, 2, none⟩ = some (.string ⟨#[]⟩) := box6 HA.out hb (Nat.le_refl _) rfl
  have r3 : w1.cell? ⟨w.heap.size, 3, none⟩ = some (.int .u64 0) := box6 HA.out hb (Nat.le_refl _) rfl
  have r4 : w1.cell? ⟨w.heap.size, 4, none⟩ = some (.int .i64 0) := box6 HA.out hb (Nat.le_refl _) rfl
  have r7 : w1.cell? ⟨w.heap.size, 7, none⟩ = some (.slice none 0 0) := box6 HA.out hb (Nat.le_refl _) rfl
  clear hb hsg q0
  go_wp2_with fail
  go_loopw [3, 4] (fun t3 t4 wr => t4 = .int .i64 0 ∧ t3 = .string ((⟨#[40]⟩ : ByteArray) ++ S1) ∧ Hid (wr = w1)) (fun _ _ _ => 0)
  case atStart => exact ⟨rfl, rfl, rfl⟩
  case round =>
    obtain ⟨rfl, rfl, HW⟩ := hrel
    obtain rfl := HW.out
    go_wp2
    go_ret
    exact ⟨rfl, HB1.out⟩

set_option maxHeartbeats 2000000 in
theorem rdec13_any (n : Int) (w : World) (hn : i64 n) : Calls Tryd.prog 42 #[.int .i64 n] w fun e w' => e = .returned (.string (bs (Lib.itoa n))) ∧ Below w.heap.size w w' := by
  have hsh := fun w => show_any n w hn
  have hlen := itoa_len n hn
  have hs1 := bs_size (40 :: (Lib.itoa n ++ [41]))
  have HX : Hid ((bs (40 :: (Lib.itoa n ++ [41]))).extract 1 ((Lib.itoa n).length + 1) = bs (Lib.itoa n)) := by
    show _ = _
    rw [bs_extract]
    simp
  simp only [List.length_cons, List.length_append, List.length_nil, Nat.zero_add] at hs1
  rw [← HX.out]
  obtain ⟨l1, hl1⟩ : ∃ l, l = (Lib.itoa n).length := ⟨_, rfl⟩
  rw [← hl1] at hlen hs1 ⊢
  generalize bs (40 :: (Lib.itoa n ++ [41])) = S at *
  have b1 : ((l1 + 1 + 1 : Nat) : Int) - 1 = ((l1 + 1 : Nat) : Int) := by omega
  have b2 : (1 : Int) ≤ ((l1 + 1 : Nat) : Int) := by omega
  have b3 : ((l1 + 1 : Nat) : Int) ≤ ((l1 + 1 + 1 : Nat) : Int) := by omega
  clear hl1 HX
  go_enter Tryd.func42, Tryd.ntmps42
  go_wp2_with fail
  refine (hsh _).mono ?_
  rintro e w1 ⟨rfl, hb1⟩
  have HB1 := hide_p hb1
  clear hb1
  go_wp2_with fail
  refine (hsh _).mono ?_
  rintro e w2 ⟨rfl, hb2⟩
  have HB2 : Hid (Below w.heap.size w w2) := HB1.out.trans (hb2.mono HB1.out.size)
  clear hb2 hsh
  go_wp2
  go_ret
  exact ⟨rfl, HB2.out⟩

end Go.Proofs.YtlfbjnbjnfmnlaaDoor
namespace Go.Proofs.YtlfbjnbjnfmnlaaDoor
set_option maxRecDepth 100000
open Go.RowKit Txt Pg

def opsU (x : Ins) : Nat → List UInt8
  | 0 => []
  | k + 1 => opsU x k ++ (32 :: Lib.itoa (opnd x k))
def opsL (op : Int) : Nat := if isOp op = true then (usesT op).length else 0
theorem opsU_row (x : Ins) : opsU x (opsL x.op) = opT (rowOf x.op).2.2.1 x.a ++ opT (rowOf x.op).2.2.2.1 x.b ++ opT (rowOf x.op).2.2.2.2 x.c := by
  obtain ⟨op, a, b, c⟩ := x
  by_cases ho : isOp op = true
  · have hc : op = 0 ∨ op = 1 ∨ op = 2 ∨ op = 3 ∨ op = 4 ∨ op = 5 ∨ op = 6 ∨ op = 7 ∨ op = 8 ∨ op = 9 ∨ op = 10 ∨ op = 11 ∨ op = 12 ∨ op = 13 ∨ op = 14 ∨ op = 15 ∨ op = 16 ∨ op = 17 ∨ op = 18 ∨ op = 19 ∨ op = 20 ∨ op = 21 ∨ op = 22 ∨ op = 23 ∨ op = 24 ∨ op = 25 ∨ op = 26 ∨ op = 27 ∨ op = 28 ∨ op = 29 ∨ op = 30 ∨ op = 31 ∨ op = 32 ∨ op = 33 ∨ op = 34 ∨ op = 35 ∨ op = 36 ∨ op = 37 := by
      unfold isOp at ho
      simp at ho
      omega
    unfold opsL
    simp only
    rw [if_pos ho]
    clear ho
    rcases hc with rfl | rfl | rfl | rfl | rfl | rfl | rfl | rfl | rfl | rfl | rfl | rfl | rfl | rfl | rfl | rfl | rfl | rfl | rfl | rfl | rfl | rfl | rfl | rfl | rfl | rfl | rfl | rfl | rfl | rfl | rfl | rfl | rfl | rfl | rfl | rfl | rfl | rfl
    all_goals simp [opsU, usesT, usesL, rowOf, ordL, opT, opnd]
  · unfold opsL
    have hr : rowOf op = noRow := by
      unfold rowOf
      rw [if_neg (by unfold isOp at ho; simp at ho; omega)]
    simp only
    rw [if_neg ho, hr]
    rfl
theorem opsU_len (x : Ins) : ∀ (k L : Nat), k ≤ L → (opsU x k).length ≤ (opsU x L).length
  | k, 0, h => by
    have : k = 0 := by omega
    subst this; exact Nat.le_refl _
  | k, L + 1, h => by
    by_cases c : k = L + 1
    · subst c; exact Nat.le_refl _
    · have := opsU_len x k L (by omega)
      show _ ≤ (opsU x L ++ _).length
      rw [List.length_append]
      omega
theorem lineT_ops (i : Nat) (x : Ins) : lineT i x = headT i x.op ++ opsU x (opsL x.op) ++ [10] := by
  unfold lineT
  rw [opsU_row]
  simp [List.append_assoc]

set_option maxHeartbeats 4000000 in
theorem rprint_any : ∀ (t : Pr) (x : Six) (w : World), PR w t x → (prnT t).length ≤ 140737488355328 →
    Calls Tryd.prog 19 #[x.v] w fun e w' => e = .returned (.string (bs (prnT t))) ∧ Below w.heap.size w w' := by
  refine Pr.ind' fun pa rg us cs ks ps ih => ?_
  intro x w h hlen
  rw [PR_mk] at h
  obtain ⟨pa', rg', vu, vc, vk, vp⟩ := x
  simp only at h
  obtain ⟨rfl, rfl, hpa, hrg, hu, hc, hk, f, hp, hch⟩ := h
  obtain ⟨ac, cc, rfl, hcl, hcc, lc⟩ := hc.1.val
  obtain ⟨ap, cp, rfl, hpl, hpc, lp⟩ := hp.val
  unfold Six.v
  simp only
  rw [prnT_mk] at hlen ⊢
  have HI : Hid _ := ih
  obtain ⟨np, hnp⟩ : ∃ n, n = ps.length := ⟨_, rfl⟩
  obtain ⟨nc, hnc⟩ : ∃ n, n = cs.length := ⟨_, rfl⟩
  have HNP := hide_p hnp
  have HNC := hide_p hnc
  have HSP : Hid (SL w (.slice ap np cp) ps.length 6 (fun i j u => u = (f i).at j)) := by rw [hnp]; exact hp
  have HSC : Hid (SI w (.slice ac nc cc) cs) := by rw [hnc]; exact hc
  have HCH := (show Hid (∀ i (h : i < ps.length), PR w ps[i] (f i)) from hch)
  have HLEN : Hid ((linesF 0 cs).length + (prnL ps).2.length ≤ 140737488355328) := by rw [List.length_append] at hlen; exact hlen
  rw [← hnc, ← hnp]
  rw [← hnp] at hpl lp
  rw [← hnc] at hcl lc
  unfold far at lp lc
  obtain ⟨R, hR⟩ : ∃ R, R = bs (linesF 0 cs ++ (prnL ps).2) := ⟨_, rfl⟩
  rw [← hR]
  have HR := hide_p hR
  clear hu hc hk hp hch ih hnp hnc hlen hpa hrg hR
  obtain ⟨w0, hw0⟩ : ∃ w0, w0 = w.alloc (.cells #[.int .i64 pa', .int .i64 rg', vu, .slice ac nc cc, vk, .slice ap np cp] 31) := ⟨_, rfl⟩
  have HB0 : Hid (Below w.heap.size w w0) := by rw [hw0]; exact (Below.refl _ _).alloc (Nat.le_refl _) _
  have HA3 : Hid (w0.cell? ⟨w.heap.size, 3, none⟩ = some (.slice ac nc cc)) := by show _ = _; rw [hw0, World.cell?_alloc_new]; rfl
  have HA5 : Hid (w0.cell? ⟨w.heap.size, 5, none⟩ = some (.slice ap np cp)) := by show _ = _; rw [hw0, World.cell?_alloc_new]; rfl
  go_enter Tryd.func19, Tryd.ntmps19
  go_wp2_with fail
  rw [← hw0]
  clear hw0
  go_loopw [3, 4, 5, 6] (fun t3 t4 t5 t6 wr => ∃ (i : Nat) (T : ByteArray), i ≤ nc ∧ t4 = .int .i64 i ∧ t3 = .string T ∧ T.size ≤ 140737488355328 ∧ Hid (T = bs (linesF 0 (cs.take i))) ∧ Hid (Below w0.heap.size w0 wr)) (fun _ t4 _ _ _ => nc - (intOf t4).toNat)
  case atStart => exact ⟨0, ⟨#[]⟩, Nat.zero_le _, rfl, rfl, by decide, rfl, Below.refl _ _⟩
  case round =>
    obtain ⟨i, T, hi, rfl, rfl, hT, HT, HB⟩ := hrel
    have HBw : Hid (Below w.heap.size w wr) := HB0.out.trans (HB.out.mono HB0.out.size)
    have r3 : wr.cell? ⟨w.heap.size, 3, none⟩ = some (.slice ac nc cc) := cell_kept HB.out (Nat.le_refl _) HA3.out
    by_cases c : i < nc
    · have i1 : i < cs.length := by rw [← HNC.out]; exact c
      obtain ⟨-, gc, oc, rfl, op, xa, xb, xc, hl, ⟨k0, k1, k2, k3⟩, e0, e1, e2, e3⟩ := (HSC.out.kept HBw.out (Nat.le_refl _)).get i1
      have HL1 : Hid (linesF 0 (cs.take (i + 1)) = linesF 0 (cs.take i) ++ (headT i op ++ opsU ⟨op, xa, xb, xc⟩ (opsL op) ++ [10])) := by show _ = _; rw [linesF_take cs i i1, hl, lineT_ops]
      have HLn : Hid (T.size + (headT i op).length + (opsU ⟨op, xa, xb, xc⟩ (opsL op)).length + 1 ≤ 140737488355328) := by
        have h1 := linesF_len cs (i + 1)
        rw [HL1.out] at h1
        simp only [List.length_append, List.length_singleton] at h1
        have h2 := HLEN.out
        have h3 : T.size = (linesF 0 (cs.take i)).length := by rw [HT.out, bs_size]
        show _ ≤ _
        omega
      have hi64 : i64 (i : Int) := by unfold i64; omega
      have hz1 := itoa_len i hi64
      have hz2 := name_len op
      obtain ⟨bv, hbv⟩ : ∃ bv, bv = wr.heap.size := ⟨_, rfl⟩
      obtain ⟨wv, hwv⟩ : ∃ wv, wv = wr.alloc (.cells #[.int .i64 op, .int .i64 xa, .int .i64 xb, .int .i64 xc] 53) := ⟨_, rfl⟩
      have HBv : Hid (Below wr.heap.size wr wv) := by rw [hwv]; exact (Below.refl _ _).alloc (Nat.le_refl _) _
      have HV : Hid (∀ j, wv.cell? ⟨bv, j, none⟩ = (#[.int .i64 op, .int .i64 xa, .int .i64 xb, .int .i64 xc] : Array Value)[j]?) := by
        intro j
        rw [hwv, hbv, World.cell?_alloc_new]
      have p0 : ∀ p : BelowOf wv, p.u.cell? ⟨bv, 0, none⟩ = some (.int .i64 op) := fun p => cell_kept p.h (Nat.le_refl _) (HV.out 0)
      have HDc : Hid (∀ w, Calls Tryd.prog 42 #[.int .i64 i] w fun e w' => e = .returned (.string (bs (Lib.itoa i))) ∧ Below w.heap.size w w') := fun w => rdec13_any i w hi64
      have HNa : Hid (∀ w, Calls Tryd.prog 10 #[.int .i64 op] w fun e w' => e = .returned (.string (bs (rowOf op).1)) ∧ Below w.heap.size w w') := fun w => refName_any op w
      have hInh : Inhabited (BelowOf wv) := ⟨⟨wv, Below.refl _ _⟩⟩
      have HNX : Hid (∀ wq, Below wv.heap.size wv wq → Below w0.heap.size w0 wq) := fun wq hq => HB.out.trans ((HBv.out.mono HB.out.size).trans (hq.mono (Nat.le_trans HB.out.size HBv.out.size)))
      have HT2 : Hid (T ++ bs (Lib.itoa i) ++ (⟨#[32]⟩ : ByteArray) ++ bs (rowOf op).1 = bs (linesF 0 (cs.take i) ++ headT i op ++ opsU ⟨op, xa, xb, xc⟩ 0)) := by
        show _ = _
        rw [HT.out, show (⟨#[32]⟩ : ByteArray) = bs [32] from rfl, bs_append, bs_append, bs_append]
        unfold headT
        simp [opsU, List.append_assoc]
      have hs1 := bs_size (Lib.itoa i)
      have hs2 := bs_size (rowOf op).1
      have hhl : (headT i op).length = (Lib.itoa i).length + 1 + (rowOf op).1.length := by unfold headT; simp; omega
      have hln := HLn.out
      rw [hhl] at hln
      have HHL := hide_p hhl
      have hc1 : ¬ 9223372036854775807 < T.size + (Lib.itoa i).length := by omega
      have hc2 : ¬ 9223372036854775807 < T.size + (Lib.itoa i).length + 1 := by omega
      have hc3 : ¬ 9223372036854775807 < T.size + (Lib.itoa i).length + 1 + (rowOf op).1.length := by omega
      have HSZ : Hid ((T ++ bs (Lib.itoa i) ++ (⟨#[32]⟩ : ByteArray) ++ bs (rowOf op).1).size ≤ 140737488355328) := by
        show _ ≤ _
        rw [ByteArray.size_append, ByteArray.size_append, ByteArray.size_append, hs1, hs2]
        show T.size + _ + 1 + _ ≤ _
        omega
      obtain ⟨T2, hT2⟩ : ∃ T2, T2 = T ++ bs (Lib.itoa i) ++ (⟨#[32]⟩ : ByteArray) ++ bs (rowOf op).1 := ⟨_, rfl⟩
      have HTT := hide_p hT2
      rw [← hT2] at HSZ HT2
      clear hl hi64 hhl hT2
      generalize bs (Lib.itoa i) = S1 at *
      generalize bs (rowOf op).1 = S2 at *
      generalize (Lib.itoa i).length = l1 at *
      generalize (rowOf op).1.length = l2 at *
      go_upto_region 6 with fail
      rw [← hbv, ← hwv]
      clear hbv hwv e0 e1 e2 e3
      refine wp_region_below (by kernel_rfl) (by kernel_rfl) ?_
      repeat (quiet_step (fail))
      quiet_step ((go_at_call 42; exact below_of (HDc.out _)))
      repeat (quiet_step (fail))
      quiet_step ((go_at_call 10; exact below_of (HNa.out _)))
      repeat (quiet_step (fail))
      refine wpQuiet_nil ?_
      intro wq hw'
      obtain ⟨⟨w9, hwq⟩, hw''⟩ := hw'
      subst hw''
      rw [← HTT.out]
      have HBq := hide_p (HNX.out _ hwq)
      have HBV := hide_p hwq
      have HLo : Hid (∀ k, k ≤ opsL op → (linesF 0 (cs.take i)).length + (headT i op).length + (opsU ⟨op, xa, xb, xc⟩ k).length + 1 ≤ 140737488355328) := by
        intro k hk
        have h1 := opsU_len ⟨op, xa, xb, xc⟩ k (opsL op) hk
        have h2 := HLn.out
        have h3 : T.size = (linesF 0 (cs.take i)).length := by rw [HT.out, bs_size]
        omega
      have hIs := fun w => ris_any op w
      have HUs : Hid (∀ w, isOp op = true → Calls Tryd.prog 31 #[.int .i64 op] w fun e w' => e = .returned (.string (bs (usesT op))) ∧ w' = w) := fun w h => uses_any op w h
      have HUL := hide_p (uses_len op)
      clear hwq p0 hc1 hc2 hc3 hln HTT HDc HNa
      go_wp2_with fail
      go_loopw [3, 6] (fun t3 t6 wr => ∃ (k : Nat) (T3 : ByteArray), k ≤ opsL op ∧ t6 = .int .i64 k ∧ t3 = .string T3 ∧ T3.size ≤ 140737488355328 ∧ Hid (T3 = bs (linesF 0 (cs.take i) ++ headT i op ++ opsU ⟨op, xa, xb, xc⟩ k)) ∧ Hid (Below wv.heap.size wv wr)) (fun _ t6 _ => opsL op - (intOf t6).toNat)
      case atStart => exact ⟨0, T2, Nat.zero_le _, rfl, rfl, HSZ.out, HT2, HBV⟩
      case round =>
        obtain ⟨k, T3, hk, rfl, rfl, hT3, HT3, HB3⟩ := hrel
        have HB3w := hide_p (HNX.out _ HB3.out)
        have z0 : wr.cell? ⟨bv, 0, none⟩ = some (.int .i64 op) := cell_kept HB3.out (Nat.le_refl _) (HV.out 0)
        have HEND : Hid (k = opsL op → T3 ++ (⟨#[10]⟩ : ByteArray) = bs (linesF 0 (cs.take (i + 1)))) := by
          intro e
          rw [HT3.out, show (⟨#[10]⟩ : ByteArray) = bs [10] from rfl, bs_append, HL1.out, e]
          simp [List.append_assoc]
        have hce : ¬ 9223372036854775807 < T3.size + 1 := by omega
        have hsz3 : T3.size + 1 ≤ 140737488355328 := by
          have h1 := HLo.out k hk
          rw [HT3.out, bs_size]
          simp only [List.length_append]
          omega
        have HS4 : Hid ((T3 ++ (⟨#[10]⟩ : ByteArray)).size ≤ 140737488355328) := by
          show _ ≤ _
          rw [ByteArray.size_append]
          show T3.size + 1 ≤ _
          exact hsz3
        by_cases ho : isOp op = true
        · have hUs := fun w => HUs.out w ho
          have HOL : Hid (opsL op = (usesT op).length) := by show _ = _; unfold opsL; rw [if_pos ho]
          have hsu := bs_size (usesT op)
          rw [← HOL.out] at hsu
          rw [ho] at hIs
          have hul := HUL.out
          rw [← HOL.out] at hul
          generalize bs (usesT op) = SU at *
          by_cases ck : k < opsL op
          · have hop := fun w => operand_any op xa xb xc k w (by omega)
            have hx64 : i64 (opnd ⟨op, xa, xb, xc⟩ k) := by unfold opnd; split; exact k1; split; exact k2; exact k3
            have hdc := fun w => rdec13_any (opnd ⟨op, xa, xb, xc⟩ k) w hx64
            have hz3 := itoa_len _ hx64
            have hs3 := bs_size (Lib.itoa (opnd ⟨op, xa, xb, xc⟩ k))
            have HT4 : Hid (T3 ++ (⟨#[32]⟩ : ByteArray) ++ bs (Lib.itoa (opnd ⟨op, xa, xb, xc⟩ k)) = bs (linesF 0 (cs.take i) ++ headT i op ++ opsU ⟨op, xa, xb, xc⟩ (k + 1))) := by
              show _ = _
              rw [HT3.out, show (⟨#[32]⟩ : ByteArray) = bs [32] from rfl, bs_append, bs_append]
              simp [opsU, List.append_assoc]
            have hz4 : (T3 ++ (⟨#[32]⟩ : ByteArray) ++ bs (Lib.itoa (opnd ⟨op, xa, xb, xc⟩ k))).size ≤ 140737488355328 := by
              rw [HT4.out, bs_size]
              simp only [List.length_append]
              have := HLo.out (k + 1) (by omega)
              omega
            have HZ4 := hide_p hz4
            have hcf : ¬ 9223372036854775807 < T3.size + 1 + (Lib.itoa (opnd ⟨op, xa, xb, xc⟩ k)).length := by omega
            have z1 : wr.cell? ⟨bv, 1, none⟩ = some (.int .i64 xa) := cell_kept HB3.out (Nat.le_refl _) (HV.out 1)
            have z2 : wr.cell? ⟨bv, 2, none⟩ = some (.int .i64 xb) := cell_kept HB3.out (Nat.le_refl _) (HV.out 2)
            have z3 : wr.cell? ⟨bv, 3, none⟩ = some (.int .i64 xc) := cell_kept HB3.out (Nat.le_refl _) (HV.out 3)
            obtain ⟨T4, hT4⟩ : ∃ T4, T4 = T3 ++ (⟨#[32]⟩ : ByteArray) ++ bs (Lib.itoa (opnd ⟨op, xa, xb, xc⟩ k)) := ⟨_, rfl⟩
            have HT4E := hide_p hT4
            rw [← hT4] at HT4 HZ4
            clear hT4 hz4 hx64
            generalize bs (Lib.itoa (opnd ⟨op, xa, xb, xc⟩ k)) = S5 at *
            generalize (Lib.itoa (opnd ⟨op, xa, xb, xc⟩ k)).length = l5 at *
            generalize opnd ⟨op, xa, xb, xc⟩ k = xo at *
            generalize hlo : opsL op = lo at *
            clear hlo
            go_wp2_with fail
            refine (hIs _).mono ?_
            rintro e w5 ⟨rfl, rfl⟩
            go_wp2_with fail
            refine (hUs _).mono ?_
            rintro e w6 ⟨rfl, rfl⟩
            go_wp2_with fail
            refine (hop _).mono ?_
            rintro e w7 ⟨rfl, hb7⟩
            have HB7 := hide_p (HB3.out.trans (hb7.mono HB3.out.size))
            clear hb7 z0 z1 z2 z3
            go_wp2_with fail
            refine (hdc _).mono ?_
            rintro e w8 ⟨rfl, hb8⟩
            have HB8 := hide_p (HB7.out.trans (hb8.mono HB7.out.size))
            clear hb8
            go_wp2_with fail
            rw [← HT4E.out]
            go_wp2
            go_roundw
            case rel => exact ⟨k + 1, T4, by omega, by go_num, rfl, HZ4.out, HT4, HB8⟩
            case measure => simp [intOf]; omega
          · have e : k = opsL op := by omega
            have HE2 := hide_p (HEND.out e)
            have c9 : ¬ (k : Int) < (opsL op : Int) := by omega
            generalize hlo : opsL op = lo at *
            clear hlo
            subst e
            go_wp2_with fail
            refine (hIs _).mono ?_
            rintro e w5 ⟨rfl, rfl⟩
            go_wp2_with fail
            refine (hUs _).mono ?_
            rintro e w6 ⟨rfl, rfl⟩
            go_wp2
            go_roundw
            case rel => exact ⟨i + 1, _, by omega, by go_num, rfl, HS4.out, HE2, HB3w⟩
            case measure => simp [intOf]; omega
        · have ho2 : isOp op = false := by simpa using ho
          have e : k = opsL op := by
            have : opsL op = 0 := by unfold opsL; rw [if_neg ho]
            omega
          have HE2 := hide_p (HEND.out e)
          rw [ho2] at hIs
          go_wp2_with fail
          refine (hIs _).mono ?_
          rintro e w5 ⟨rfl, rfl⟩
          go_wp2
          go_roundw
          case rel => exact ⟨i + 1, _, by omega, by go_num, rfl, HS4.out, HE2, HB3w⟩
          case measure => simp [intOf]; omega
    · have e : i = nc := by omega
      subst e
      have HT1 : Hid (T = bs (linesF 0 cs)) := by
        have := HT.out
        rw [List.take_of_length_le (by rw [← HNC.out]; omega)] at this
        exact this
      clear HT
      go_wp2_with fail
      go_loopw [3, 7] (fun t3 t7 wr => ∃ (j : Nat) (T3 : ByteArray), j ≤ np ∧ t7 = .int .i64 j ∧ t3 = .string T3 ∧ T3.size ≤ 140737488355328 ∧ Hid (T3 = bs (linesF 0 cs ++ (prnL (ps.take j)).2)) ∧ Hid (Below w0.heap.size w0 wr)) (fun _ t7 _ => np - (intOf t7).toNat)
      case atStart => exact ⟨0, T, Nat.zero_le _, rfl, rfl, hT, by show _ = _; rw [show (prnL (ps.take 0)).2 = [] from rfl, List.append_nil]; exact HT1.out, HB⟩
      case round =>
        obtain ⟨j, T3, hj, rfl, rfl, hT3, HT3, HB3⟩ := hrel
        have HB3w : Hid (Below w.heap.size w wr) := HB0.out.trans (HB3.out.mono HB0.out.size)
        have r5 : wr.cell? ⟨w.heap.size, 5, none⟩ = some (.slice ap np cp) := cell_kept HB3.out (Nat.le_refl _) HA5.out
        by_cases c2 : j < np
        · have j1 : j < ps.length := by rw [← HNP.out]; exact c2
          obtain ⟨-, gp, op, rfl, e0, e1, e2, e3, e4, e5⟩ := SP.get (HSP.out.kept HB3w.out (Nat.le_refl _)) j1
          have HPT : Hid ((prnL (ps.take (j + 1))).2 = (prnL (ps.take j)).2 ++ (funT ++ Lib.itoa (j : Nat) ++ [10] ++ prnT ps[j])) := prnL_take ps j j1
          have hln : T3.size + 9 + (Lib.itoa (j : Nat)).length + 1 + (prnT ps[j]).length ≤ 140737488355328 := by
            have h1 := prnL_len ps (j + 1)
            rw [HPT.out] at h1
            simp only [List.length_append, List.length_singleton] at h1
            have h2 := HLEN.out
            have h3 : T3.size = (linesF 0 cs).length + (prnL (ps.take j)).2.length := by rw [HT3.out, bs_size, List.length_append]
            have h4 : funT.length = 9 := rfl
            omega
          have hj64 : i64 (j : Int) := by unfold i64; omega
          have HDc : Hid (∀ w, Calls Tryd.prog 42 #[.int .i64 j] w fun e w' => e = .returned (.string (bs (Lib.itoa j))) ∧ Below w.heap.size w w') := fun w => rdec13_any j w hj64
          have HRec : Hid (∀ p : BelowOf wr, Calls Tryd.prog 19 #[(f j).v] p.u fun e w' => e = .returned (.string (bs (prnT ps[j]))) ∧ Below p.u.heap.size p.u w') := fun p => HI.out ps[j] (List.getElem_mem j1) (f j) p.u (PR.kept (HB3w.out.trans (p.h.mono HB3w.out.size)) (Nat.le_refl _) _ _ (HCH.out j j1)) (by omega)
          have hs1 := bs_size (Lib.itoa j)
          have hs2 := bs_size (prnT ps[j])
          have HT4 : Hid (T3 ++ (⟨#[102, 117, 110, 99, 116, 105, 111, 110, 32]⟩ : ByteArray) ++ bs (Lib.itoa j) ++ (⟨#[10]⟩ : ByteArray) ++ bs (prnT ps[j]) = bs (linesF 0 cs ++ (prnL (ps.take (j + 1))).2)) := by
            show _ = _
            rw [HT3.out, HPT.out, show (⟨#[102, 117, 110, 99, 116, 105, 111, 110, 32]⟩ : ByteArray) = bs funT from rfl, show (⟨#[10]⟩ : ByteArray) = bs [10] from rfl, bs_append, bs_append, bs_append, bs_append]
            simp [List.append_assoc]
          have HZ4 : Hid ((T3 ++ (⟨#[102, 117, 110, 99, 116, 105, 111, 110, 32]⟩ : ByteArray) ++ bs (Lib.itoa j) ++ (⟨#[10]⟩ : ByteArray) ++ bs (prnT ps[j])).size ≤ 140737488355328) := by
            show _ ≤ _
            rw [ByteArray.size_append, ByteArray.size_append, ByteArray.size_append, ByteArray.size_append, hs1, hs2]
            show T3.size + 9 + _ + 1 + _ ≤ _
            exact hln
          have hc0 : ¬ 9223372036854775807 < T3.size + 9 := by omega
          have hc1 : ¬ 9223372036854775807 < T3.size + 9 + (Lib.itoa (j : Nat)).length := by omega
          have hc2 : ¬ 9223372036854775807 < T3.size + 9 + (Lib.itoa (j : Nat)).length + 1 := by omega
          have hc3 : ¬ 9223372036854775807 < T3.size + 9 + (Lib.itoa (j : Nat)).length + 1 + (prnT ps[j]).length := by omega
          obtain ⟨T4, hT4⟩ : ∃ T4, T4 = T3 ++ (⟨#[102, 117, 110, 99, 116, 105, 111, 110, 32]⟩ : ByteArray) ++ bs (Lib.itoa j) ++ (⟨#[10]⟩ : ByteArray) ++ bs (prnT ps[j]) := ⟨_, rfl⟩
          have HT4E := hide_p hT4
          rw [← hT4] at HT4 HZ4
          clear hT4 hj64 hln HPT
          generalize bs (Lib.itoa (j : Nat)) = S5 at *
          generalize (Lib.itoa (j : Nat)).length = l5 at *
          generalize bs (prnT ps[j]) = S6 at *
          generalize (prnT ps[j]).length = l6 at *
          unfold Six.v at HRec
          generalize f j = z at *
          obtain ⟨ypa, yrg, yu, yc, yk, yp⟩ := z
          simp only at e0 e1 e2 e3 e4 e5 HRec
          have p5 : ∀ p : BelowOf wr, p.u.cell? ⟨w.heap.size, 5, none⟩ = some (.slice (some ⟨gp, op, none⟩) np cp) := fun p => cell_kept p.h (Nat.le_refl _) r5
          have t0 : ∀ p : BelowOf wr, p.u.cell? ⟨gp, op + j * 6, none⟩ = some (.int .i64 ypa) := fun p => cell_kept p.h (Nat.le_refl _) e0
          have t1 : ∀ p : BelowOf wr, p.u.cell? ⟨gp, op + j * 6 + 1, none⟩ = some (.int .i64 yrg) := fun p => cell_kept p.h (Nat.le_refl _) e1
          have t2 : ∀ p : BelowOf wr, p.u.cell? ⟨gp, op + j * 6 + 2, none⟩ = some yu := fun p => cell_kept p.h (Nat.le_refl _) e2
          have t3 : ∀ p : BelowOf wr, p.u.cell? ⟨gp, op + j * 6 + 3, none⟩ = some yc := fun p => cell_kept p.h (Nat.le_refl _) e3
          have t4 : ∀ p : BelowOf wr, p.u.cell? ⟨gp, op + j * 6 + 4, none⟩ = some yk := fun p => cell_kept p.h (Nat.le_refl _) e4
          have t5 : ∀ p : BelowOf wr, p.u.cell? ⟨gp, op + j * 6 + 5, none⟩ = some yp := fun p => cell_kept p.h (Nat.le_refl _) e5
          have hInh : Inhabited (BelowOf wr) := ⟨⟨wr, Below.refl _ _⟩⟩
          clear e0 e1 e2 e3 e4 e5
          go_wp2_with fail
          refine wp_region_below (by kernel_rfl) (by kernel_rfl) ?_
          repeat (quiet_step (fail))
          quiet_step ((go_at_call 42; exact below_of (HDc.out _)))
          repeat (quiet_step (fail))
          quiet_step ((go_at_call 19; exact below_of (HRec.out _)))
          repeat (quiet_step (fail))
          refine wpQuiet_nil ?_
          intro wq hw'
          obtain ⟨⟨w9, hwq⟩, hw''⟩ := hw'
          subst hw''
          rw [← HT4E.out]
          have HBq : Hid (Below w0.heap.size w0 wq) := HB3.out.trans (hwq.mono HB3.out.size)
          clear p5 t0 t1 t2 t3 t4 t5 hwq HRec HDc r5 hc0 hc1 hc2 hc3
          go_wp2
          go_roundw
          case rel => exact ⟨j + 1, T4, by omega, by go_num, rfl, HZ4.out, HT4, HBq⟩
          case measure => simp [intOf]; omega
        · have e : j = np := by omega
          have HF : Hid (T3 = R) := by
            have := HT3.out
            rw [List.take_of_length_le (by rw [← HNP.out]; omega)] at this
            rw [HR.out]; exact this
          subst e
          go_wp2
          go_ret
          exact ⟨by rw [HF.out]; rfl, HB3w.out⟩

theorem linesF_bound : ∀ (cs : List Ins) (k : Nat), k + cs.length ≤ 9223372036854775807 → (∀ x ∈ cs, x.ok) → (linesF k cs).length ≤ 100 * cs.length
  | [], _, _, _ => Nat.le_refl _
  | x :: cs, k, h, ho => by
    have h1 := linesF_bound cs (k + 1) (by simp only [List.length_cons] at h; omega) (fun y hy => ho y (List.mem_cons_of_mem _ hy))
    have hx := ho x List.mem_cons_self
    have b0 := itoa_len k (by unfold i64; simp only [List.length_cons] at h; omega)
    have b1 := itoa_len x.a hx.2.1
    have b2 := itoa_len x.b hx.2.2.1
    have b3 := itoa_len x.c hx.2.2.2
    have b4 := name_len x.op
    have o1 : ∀ o v, (Lib.itoa v).length ≤ 20 → (opT o v).length ≤ 21 := by
      intro o v hv
      unfold opT
      split
      · simp
      · simp only [List.length_cons]; omega
    have a1 := o1 (rowOf x.op).2.2.1 x.a b1
    have a2 := o1 (rowOf x.op).2.2.2.1 x.b b2
    have a3 := o1 (rowOf x.op).2.2.2.2 x.c b3
    show (lineT k x ++ linesF (k + 1) cs).length ≤ 100 * (cs.length + 1)
    unfold lineT headT
    simp only [List.length_append, List.length_singleton]
    omega
theorem prnT_bound : ∀ (t : Pr) (x : Six) (w : World), PR w t x → (prnT t).length + 30 ≤ 100 * t.cnt := by
  refine Pr.ind' fun pa rg us cs ks ps ih => ?_
  intro x w h
  rw [PR_mk] at h
  obtain ⟨_, _, _, _, _, hc, _, f, hp, hch⟩ := h
  obtain ⟨_, _, _, _, _, lc⟩ := hc.1.val
  obtain ⟨_, _, _, _, _, lp⟩ := hp.val
  unfold far at lc lp
  have h1 := linesF_bound cs 0 (by omega) hc.2
  rw [prnT_mk, Pr.cnt_mk, List.length_append]
  have h2 : ∀ i, i ≤ ps.length → (prnL (ps.take i)).2.length ≤ 100 * pcnts (ps.take i) := by
    intro i
    induction i with
    | zero => intro _; simp [prnL]
    | succ i ih2 =>
      intro hi
      have i1 : i < ps.length := by omega
      rw [prnL_take ps i i1, pcnts_take ps i i1]
      have h3 := ih2 (by omega)
      have h4 := ih _ (List.getElem_mem i1) _ w (hch i i1)
      have h5 := itoa_len (i : Nat) (by unfold i64; omega)
      have h6 : funT.length = 9 := rfl
      simp only [List.length_append, List.length_singleton]
      omega
  have h3 := h2 ps.length (Nat.le_refl _)
  rw [List.take_length] at h3
  omega

end Go.Proofs.YtlfbjnbjnfmnlaaDoor
namespace Go.Proofs.YtlfbjnbjnfmnlaaDoor
set_option maxRecDepth 100000
open Go.RowKit Txt Pg

theorem keep6 {W w' : World} {B : Nat} {u0 u1 u2 u3 u4 u5 : Value} (h : W.cell? ⟨B, 0, none⟩ = some u0 ∧ W.cell? ⟨B, 1, none⟩ = some u1 ∧ W.cell? ⟨B, 2, none⟩ = some u2 ∧ W.cell? ⟨B, 3, none⟩ = some u3 ∧ W.cell? ⟨B, 4, none⟩ = some u4 ∧ W.cell? ⟨B, 5, none⟩ = some u5) (k : Below W.heap.size W w') : w'.cell? ⟨B, 0, none⟩ = some u0 ∧ w'.cell? ⟨B, 1, none⟩ = some u1 ∧ w'.cell? ⟨B, 2, none⟩ = some u2 ∧ w'.cell? ⟨B, 3, none⟩ = some u3 ∧ w'.cell? ⟨B, 4, none⟩ = some u4 ∧ w'.cell? ⟨B, 5, none⟩ = some u5 := by
  obtain ⟨h0, h1, h2, h3, h4, h5⟩ := h
  exact ⟨cell_kept k (Nat.le_refl _) h0, cell_kept k (Nat.le_refl _) h1, cell_kept k (Nat.le_refl _) h2, cell_kept k (Nat.le_refl _) h3, cell_kept k (Nat.le_refl _) h4, cell_kept k (Nat.le_refl _) h5⟩

set_option maxHeartbeats 2000000 in
theorem progChecks_walk (t : Pr) (x : Six) (w : World) (h : PR w t x) (hT : Ot w) (hTB : TB w) :
    Calls Tryd.prog 4 #[x.v] w fun e w' => e = .returned (.bool true) ∧ Below w.heap.size w w' := by
  have HP := hide_p h
  have HT := hide_p hT
  have HTB := hide_p hTB
  have h00 := hT.1
  have hforms := six_form (PR.prs _ _ h)
  have hsm := small_law t x
  have HPB := hide_p (prnT_bound t x w h)
  have HLV : Hid (∀ w', Below w.heap.size w w' → Calls Tryd.prog 13 #[] w' fun e w'' => e = .returned (.bool true) ∧ Below w'.heap.size w' w'') := fun w' hb => glives_any w' (HT.out.below hb h00) (HTB.out.below hb)
  have HOW : Hid (∀ w', Below w.heap.size w w' → t.cnt ≤ 3000 → Calls Tryd.prog 16 #[x.v] w' fun e w'' => ∃ v' : Value, e = .returned v' ∧ Below w'.heap.size w' w'' ∧ Calls Tryd.prog 15 #[v'] w'' (fun e w3 => e = .returned (.int .i64 (chkB t)) ∧ Below w''.heap.size w'' w3) ∧ Calls Tryd.prog 18 #[v'] w'' (fun e w3 => e = .returned (.string (bs (prnT t))) ∧ Below w''.heap.size w'' w3)) := fun w' hb hc => by
    refine (ownP_any t x w' (PR.kept hb (Nat.le_refl _) _ _ HP.out) (by omega)).mono ?_
    rintro e w'' ⟨x', he, hp, hb2⟩
    have hbb := hb.trans (hb2.mono hb.size)
    exact ⟨x'.v, he, hb2, check_any t x' w'' (PRS.pr _ _ hp) (HT.out.below hbb h00), print_any t x' w'' (PRS.pr _ _ hp) (HT.out.below hbb h00) (HTB.out.below hbb) (by have := HPB.out; omega)⟩
  have HRC : Hid (∀ w', Below w.heap.size w w' → Calls Tryd.prog 17 #[x.v] w' fun e w'' => e = .returned (.int .i64 (chkB t)) ∧ Below w'.heap.size w' w'') := fun w' hb => rCheck_any t x w' (PR.kept hb (Nat.le_refl _) _ _ HP.out)
  have HRP : Hid (∀ w', Below w.heap.size w w' → t.cnt ≤ 3000 → Calls Tryd.prog 19 #[x.v] w' fun e w'' => e = .returned (.string (bs (prnT t))) ∧ Below w'.heap.size w' w'') := fun w' hb hc => rprint_any t x w' (PR.kept hb (Nat.le_refl _) _ _ HP.out) (by have := HPB.out; omega)
  obtain ⟨pa, rg, vu, vc, vk, vp⟩ := x
  simp only at hforms
  obtain ⟨a1, n1, c1, a2, n2, c2, a3, n3, c3, a4, n4, c4, rfl, rfl, rfl, rfl⟩ := hforms
  unfold Six.v at HOW HRC HRP hsm ⊢
  simp only at HOW HRC HRP hsm ⊢
  generalize chkB t = Z at *
  generalize bs (prnT t) = P at *
  obtain ⟨w0, hw0⟩ : ∃ w0, w0 = w.alloc (.cells #[.int .i64 pa, .int .i64 rg, .slice a1 n1 c1, .slice a2 n2 c2, .slice a3 n3 c3, .slice a4 n4 c4] 31) := ⟨_, rfl⟩
  have HB0 : Hid (Below w.heap.size w w0) := by rw [hw0]; exact (Below.refl _ _).alloc (Nat.le_refl _) _
  have HA0 : Hid (∀ j, w0.cell? ⟨w.heap.size, j, none⟩ = (#[.int .i64 pa, .int .i64 rg, .slice a1 n1 c1, .slice a2 n2 c2, .slice a3 n3 c3, .slice a4 n4 c4] : Array Value)[j]?) := by
    intro j
    rw [hw0, World.cell?_alloc_new]
  have x0 : w0.cell? ⟨w.heap.size, 0, none⟩ = some (.int .i64 pa) := HA0.out 0
  have x1 : w0.cell? ⟨w.heap.size, 1, none⟩ = some (.int .i64 rg) := HA0.out 1
  have x2 : w0.cell? ⟨w.heap.size, 2, none⟩ = some (.slice a1 n1 c1) := HA0.out 2
  have x3 : w0.cell? ⟨w.heap.size, 3, none⟩ = some (.slice a2 n2 c2) := HA0.out 3
  have x4 : w0.cell? ⟨w.heap.size, 4, none⟩ = some (.slice a3 n3 c3) := HA0.out 4
  have x5 : w0.cell? ⟨w.heap.size, 5, none⟩ = some (.slice a4 n4 c4) := HA0.out 5
  have hsm0 := hsm w0 (PR.kept HB0.out (Nat.le_refl _) _ _ HP.out)
  clear h hT hTB hsm
  go_enter Tryd.func4, Tryd.ntmps4
  go_upto_region 1 with fail
  rw [← hw0]
  clear hw0
  go_wp2_with fail
  refine hsm0.mono ?_
  rintro e w1 ⟨ok, rfl, hok, hb1⟩
  have HB1w : Hid (Below w.heap.size w w1) := HB0.out.trans (hb1.mono HB0.out.size)
  have y0 : w1.cell? ⟨w.heap.size, 0, none⟩ = some (.int .i64 pa) := box6 HA0.out hb1 (Nat.le_refl _) rfl
  have y1 : w1.cell? ⟨w.heap.size, 1, none⟩ = some (.int .i64 rg) := box6 HA0.out hb1 (Nat.le_refl _) rfl
  have y2 : w1.cell? ⟨w.heap.size, 2, none⟩ = some (.slice a1 n1 c1) := box6 HA0.out hb1 (Nat.le_refl _) rfl
  have y3 : w1.cell? ⟨w.heap.size, 3, none⟩ = some (.slice a2 n2 c2) := box6 HA0.out hb1 (Nat.le_refl _) rfl
  have y4 : w1.cell? ⟨w.heap.size, 4, none⟩ = some (.slice a3 n3 c3) := box6 HA0.out hb1 (Nat.le_refl _) rfl
  have y5 : w1.cell? ⟨w.heap.size, 5, none⟩ = some (.slice a4 n4 c4) := box6 HA0.out hb1 (Nat.le_refl _) rfl
  clear hsm0 hb1 x0 x1 x2 x3 x4 x5
  cases ok with
  | false =>
    have hl := HLV.out w1 HB1w.out
    clear hok
    go_wp2_with fail
    refine hl.mono ?_
    rintro e w2 ⟨rfl, hb2⟩
    have HB2w : Hid (Below w.heap.size w w2) := HB1w.out.trans (hb2.mono HB1w.out.size)
    clear hl hb2
    go_wp2
    go_ret
    exact ⟨rfl, HB2w.out⟩
  | true =>
    obtain ⟨hcn, -⟩ := hok rfl
    have hq1 : Below w.heap.size w w1.drew := HB1w.out.drew
    clear hok
    go_wp2_with fail
    go_region_held3 (fun w' => w'.cell? ⟨w.heap.size, 0, none⟩ = some (.int .i64 pa) ∧ w'.cell? ⟨w.heap.size, 1, none⟩ = some (.int .i64 rg) ∧ w'.cell? ⟨w.heap.size, 2, none⟩ = some (.slice a1 n1 c1) ∧ w'.cell? ⟨w.heap.size, 3, none⟩ = some (.slice a2 n2 c2) ∧ w'.cell? ⟨w.heap.size, 4, none⟩ = some (.slice a3 n3 c3) ∧ w'.cell? ⟨w.heap.size, 5, none⟩ = some (.slice a4 n4 c4))
      (first
        | exact keep6 (by assumption) hbS
        | go_keep)
      (first
        | (go_at_call 16; refine (HOW.out _ (by assumption) hcn).mono ?_; rintro e w2 ⟨v2, rfl, hbS, hck, hpr⟩; have hqn := Below.trans (by assumption) (hbS.mono (Below.size (by assumption))))
        | (go_at_call 15; refine hck.mono ?_; rintro e w3 ⟨rfl, hbS⟩; have hqc := hqn.trans (hbS.mono hqn.size))
        | (go_at_call 17; refine (HRC.out _ hqc).mono ?_; rintro e w4 ⟨rfl, hbS⟩; have hqr := hqc.trans (hbS.mono hqc.size))
        | (go_at_call 18; refine hpr.mono ?_; rintro e w5 ⟨rfl, hbS⟩; have hqp := hqn.trans (hbS.mono hqn.size))
        | (go_at_call 19; refine (HRP.out _ hqp hcn).mono ?_; rintro e w6 ⟨rfl, hbS⟩; have hqx := hqp.trans (hbS.mono hqp.size))
        | (go_at_call 13; refine (HLV.out _ hqx).mono ?_; rintro e w7 ⟨rfl, hbS⟩; have hqe := hqx.trans (hbS.mono hqx.size)))
    all_goals go_wp2
    all_goals go_ret
    all_goals exact ⟨rfl, hqe⟩

end Go.Proofs.YtlfbjnbjnfmnlaaDoor
namespace Go.Proofs.YtlfbjnbjnfmnlaaDoor
set_option maxRecDepth 100000
open Go.ChangeShapes Go.WideShapes Go.ChangeAt Go.RowKit Txt Pg

theorem cellsPr : Tryd.prog.cellsOf 31 = 6 := by kernel_rfl
theorem cellsUp : Tryd.prog.cellsOf 79 = 2 := by kernel_rfl
theorem cellsIns : Tryd.prog.cellsOf 53 = 4 := by kernel_rfl
theorem cellsVl : Tryd.prog.cellsOf 86 = 4 := by kernel_rfl
theorem cellsRU : Tryd.prog.cellsOf 26 = 1 := by kernel_rfl
theorem cellsRI : Tryd.prog.cellsOf 27 = 1 := by kernel_rfl
theorem cellsRV : Tryd.prog.cellsOf 28 = 1 := by kernel_rfl
theorem cellsRP : Tryd.prog.cellsOf 29 = 1 := by kernel_rfl
theorem cellsBo : Tryd.prog.cellsOf 4 = 1 := by kernel_rfl
theorem cellsNm : Tryd.prog.cellsOf 84 = 1 := by kernel_rfl
theorem bytesUp : Tryd.prog.bytesOf 79 = 16 := by kernel_rfl
theorem bytesIns : Tryd.prog.bytesOf 53 = 32 := by kernel_rfl
theorem bytesVl : Tryd.prog.bytesOf 86 = 40 := by kernel_rfl
theorem bytesPr : Tryd.prog.bytesOf 31 = 112 := by kernel_rfl

theorem some_atP {α : Type} {l : List α} {n i : Nat} (h : l.length = n) (hi : i < n) : ∃ x, l[i]? = some x := ⟨l[i]'(by omega), List.getElem?_eq_getElem (by omega)⟩
theorem list2 {l : List Value} (h : l.length = 2) : ∃ a b, l = [a, b] := by
  match l, h with
  | [a, b], _ => exact ⟨a, b, rfl⟩
theorem list4P {l : List Value} (h : l.length = 4) : ∃ a b c d, l = [a, b, c, d] := by
  match l, h with
  | [a, b, c, d], _ => exact ⟨a, b, c, d, rfl⟩
theorem list6 {l : List Value} (h : l.length = 6) : ∃ a b c d e f, l = [a, b, c, d, e, f] := by
  match l, h with
  | [a, b, c, d, e, f], _ => exact ⟨a, b, c, d, e, f, rfl⟩
theorem spotP {W : World} {a : Addr} {u : Value} (h : W.cell? a = some u) : a.spot = none := by
  obtain ⟨b, o, s⟩ := a
  cases s with
  | none => rfl
  | some k =>
    unfold World.cell? at h
    split at h <;> simp at h
theorem addP (b o n : Nat) : Addr.add ⟨b, o, none⟩ n = ⟨b, o + n, none⟩ := by unfold Addr.add; split <;> simp_all
/-- z cells in a row. -/
theorem cells_at {W : World} {a : Addr} {cs : List Value} {z : Nat} (h : W.cells? 0 a z = some cs) (j : Nat) (hj : j < z) : ∃ c, cs[j]? = some c ∧ W.cell? (a.add j) = some c := by
  unfold World.cells? at h
  rw [if_pos (Nat.zero_le _)] at h
  obtain ⟨b, e, f⟩ := Lib.mapM_at h j j (by simp [hj])
  exact ⟨b, e, f⟩

theorem weights_allP {H : Type} {P : Program} {e : TypeId} : ∀ {ds : List (DataW H)} {d : DataW H}, d ∈ ds → ∀ n ∈ d.weights P e, n ∈ DataW.weightsAll P e ds
  | c :: ds, d, h, n, hn => by
    simp only [DataW.weightsAll, List.mem_append]
    rcases List.mem_cons.1 h with rfl | h
    · exact Or.inl hn
    · exact Or.inr (weights_allP h n hn)

/-- A row that came in, of parts of z cells, each of which is read as G says. -/
theorem row_open {H : Type} {enc : TypeId × Value → H} {W : World} {sp : Nat → Bool} {held : Bool} {fuel : Nat} {ts te : TypeId} {u : Value} {y : DataW H × List MemPlace} {z by' : Nat} (hz : 0 < z) (G : List Value → Prop)
    (ht : Tryd.prog.underlying ts = some (.slice te)) (hce : Tryd.prog.cellsOf te = z) (hby : Tryd.prog.bytesOf te = by') (hb16 : 1 ≤ by')
    (h : DataW.trod enc Tryd.prog W 0 sp held fuel ts [u] = some y) (hw : ∀ m ∈ y.1.weights Tryd.prog ts, m ≤ reachBytes)
    (hG : ∀ q (cs : List Value) (x : DataW H × List MemPlace), q < fuel → DataW.trod enc Tryd.prog W 0 sp held q te cs = some x → (∀ m ∈ x.1.weights Tryd.prog te, m ≤ reachBytes) → G cs) :
    ∃ (n : Nat) (C : Nat → List Value), SL W u n z (fun i j v => (C i)[j]? = some v) ∧ ∀ i, i < n → G (C i) := by
  rcases DataW.trod_slice ht h with ⟨hc, _⟩ | ⟨a, len, cap, elems, rest, q, hq, hc, hy, _, hlc, hcm, hel, hat, _⟩
  · injection hc with hc _
    subst hc
    exact ⟨0, fun _ => [], ⟨none, 0, rfl, Nat.le_refl _, by decide, by unfold far; omega, fun _ => ⟨rfl, rfl⟩, fun x e => by cases e⟩, fun i hi => absurd hi (Nat.not_lt_zero _)⟩
  · injection hc with hc _
    subst hc
    unfold maxLen at hcm
    rw [hy] at hw
    simp only [DataW.weights, ht, hby] at hw
    have hlen : len ≤ far := by
      have := hw _ List.mem_cons_self
      simp only [List.length_map, hel] at this
      unfold reachBytes at this
      unfold far
      have h2 : len * 1 ≤ len * by' := Nat.mul_le_mul_left _ hb16
      have h3 : len * by' ≤ (len + rest.length) * by' := Nat.mul_le_mul_right _ (Nat.le_add_right _ _)
      first | omega | (simp at *; omega)
    rw [hce] at hat
    have key : ∀ i, ∃ l : List Value, i < len → (W.cells? 0 (a.add (i * z)) z = some l) ∧ G l := by
      intro i
      by_cases hi : i < len
      · obtain ⟨x, ex⟩ := some_atP hel hi
        have hb := hat i hi
        rw [ex] at hb
        obtain ⟨cs, hcs, htr⟩ := Option.bind_eq_some_iff.1 hb
        refine ⟨cs, fun _ => ⟨hcs, hG q cs x (by omega) htr (fun m hm => ?_)⟩⟩
        refine hw m (List.mem_cons_of_mem _ (List.mem_append_left _ (weights_allP (d := x.1) ?_ m hm)))
        exact List.mem_map.2 ⟨x, List.mem_of_getElem? ex, rfl⟩
      · exact ⟨[], fun h => absurd h hi⟩
    obtain ⟨C, hC⟩ := Classical.axiomOfChoice key
    refine ⟨len, C, ⟨some a, cap, rfl, hlc, by omega, hlen, (fun e => by cases e), fun x e => ?_⟩, fun i hi => (hC i hi).2⟩
    cases e
    have hsp : 0 < len → a.spot = none := by
      intro h0
      obtain ⟨c, _, hc⟩ := cells_at (hC 0 h0).1 0 hz
      rw [Nat.zero_mul, Addr_add_zero, Addr_add_zero] at hc
      exact spotP hc
    refine ⟨hsp, fun i hi j hj => ?_⟩
    obtain ⟨c, h1, h2⟩ := cells_at (hC i hi).1 j hj
    have h3 := hsp (Nat.lt_of_le_of_lt (Nat.zero_le _) hi)
    obtain ⟨b, o, s⟩ := a
    simp only at h3
    subst h3
    rw [addP, addP] at h2
    exact ⟨c, h2, h1⟩

theorem list_of {α : Type} : ∀ (n : Nat) (Q : Nat → α → Prop), (∀ i, i < n → ∃ x, Q i x) → ∃ l : List α, l.length = n ∧ ∀ i (h : i < l.length), Q i l[i]
  | 0, _, _ => ⟨[], rfl, fun i h => absurd h (Nat.not_lt_zero _)⟩
  | n + 1, Q, h => by
    obtain ⟨l, hl, hq⟩ := list_of n Q (fun i hi => h i (by omega))
    obtain ⟨x, hx⟩ := h n (by omega)
    refine ⟨l ++ [x], by simp [hl], fun i hi => ?_⟩
    by_cases c : i < l.length
    · rw [List.getElem_append_left c]; exact hq i c
    · have : i = l.length := by rw [List.length_append, List.length_singleton] at hi; omega
      subst this
      rw [List.getElem_append_right (Nat.le_refl _)]
      simp only [Nat.sub_self, List.getElem_singleton]
      rw [hl]; exact hx

section
variable {H : Type} {enc : TypeId × Value → H} {W : World} {sp : Nat → Bool} {held : Bool}
theorem i64_of {k : Int} (wk : (Lit.int IntKind.i64 k).wf = true) : i64 k := by
  unfold i64
  simpa [Lit.wf, IntKind.min, IntKind.max, IntKind.signed, IntKind.bits] using wk
theorem up_open (q : Nat) (cs : List Value) (x : DataW H × List MemPlace) (h : DataW.trod enc Tryd.prog W 0 sp held q 79 cs = some x) : ∃ u : Upp, cs = [.bool u.own, .int .i64 u.pl] ∧ u.ok := by
  obtain ⟨xs, n, rfl, hd, hlen, hxl, hf⟩ := DataW.trod_struct Tryd.underlying79 h
  rw [cellsUp] at hlen
  obtain ⟨c0, c1, rfl⟩ := list2 hlen
  have h0 : DataW.trod enc Tryd.prog W 0 sp held n 4 (([c0, c1].drop 0).take (Tryd.prog.cellsOf 4)) = xs[0]? := hf 0 _ rfl
  have h1 : DataW.trod enc Tryd.prog W 0 sp held n 3 (([c0, c1].drop 1).take (Tryd.prog.cellsOf 3)) = xs[1]? := hf 1 _ rfl
  obtain ⟨y0, e0⟩ := some_atP hxl (i := 0) (by decide)
  obtain ⟨y1, e1⟩ := some_atP hxl (i := 1) (by decide)
  rw [e0] at h0
  rw [e1] at h1
  simp only [cellsBo, cellsInt1, List.drop_zero, List.drop_succ_cons, List.take_succ_cons, List.take_zero] at h0 h1
  obtain ⟨b, hb, _⟩ := DataW.trod_bool Tryd.underlying4 h0
  obtain ⟨k, hk, _, wk⟩ := DataW.trod_int Tryd.underlying3 h1
  injection hb with hb _
  injection hk with hk _
  subst hb hk
  exact ⟨⟨b, k⟩, rfl, i64_of wk⟩
theorem ins_open (q : Nat) (cs : List Value) (x : DataW H × List MemPlace) (h : DataW.trod enc Tryd.prog W 0 sp held q 53 cs = some x) : ∃ u : Ins, cs = [.int .i64 u.op, .int .i64 u.a, .int .i64 u.b, .int .i64 u.c] ∧ u.ok := by
  obtain ⟨xs, n, rfl, hd, hlen, hxl, hf⟩ := DataW.trod_struct Tryd.underlying53 h
  rw [cellsIns] at hlen
  obtain ⟨c0, c1, c2, c3, rfl⟩ := list4P hlen
  have h0 : DataW.trod enc Tryd.prog W 0 sp held n 3 (([c0, c1, c2, c3].drop 0).take (Tryd.prog.cellsOf 3)) = xs[0]? := hf 0 _ rfl
  have h1 : DataW.trod enc Tryd.prog W 0 sp held n 3 (([c0, c1, c2, c3].drop 1).take (Tryd.prog.cellsOf 3)) = xs[1]? := hf 1 _ rfl
  have h2 : DataW.trod enc Tryd.prog W 0 sp held n 3 (([c0, c1, c2, c3].drop 2).take (Tryd.prog.cellsOf 3)) = xs[2]? := hf 2 _ rfl
  have h3 : DataW.trod enc Tryd.prog W 0 sp held n 3 (([c0, c1, c2, c3].drop 3).take (Tryd.prog.cellsOf 3)) = xs[3]? := hf 3 _ rfl
  obtain ⟨y0, e0⟩ := some_atP hxl (i := 0) (by decide)
  obtain ⟨y1, e1⟩ := some_atP hxl (i := 1) (by decide)
  obtain ⟨y2, e2⟩ := some_atP hxl (i := 2) (by decide)
  obtain ⟨y3, e3⟩ := some_atP hxl (i := 3) (by decide)
  rw [e0] at h0
  rw [e1] at h1
  rw [e2] at h2
  rw [e3] at h3
  simp only [cellsInt1, List.drop_zero, List.drop_succ_cons, List.take_succ_cons, List.take_zero] at h0 h1 h2 h3
  obtain ⟨k0, hk0, _, w0⟩ := DataW.trod_int Tryd.underlying3 h0
  obtain ⟨k1, hk1, _, w1⟩ := DataW.trod_int Tryd.underlying3 h1
  obtain ⟨k2, hk2, _, w2⟩ := DataW.trod_int Tryd.underlying3 h2
  obtain ⟨k3, hk3, _, w3⟩ := DataW.trod_int Tryd.underlying3 h3
  injection hk0 with hk0 _
  injection hk1 with hk1 _
  injection hk2 with hk2 _
  injection hk3 with hk3 _
  subst hk0 hk1 hk2 hk3
  exact ⟨⟨k0, k1, k2, k3⟩, rfl, i64_of w0, i64_of w1, i64_of w2, i64_of w3⟩
theorem vl_open (q : Nat) (cs : List Value) (x : DataW H × List MemPlace) (h : DataW.trod enc Tryd.prog W 0 sp held q 86 cs = some x) (hw : ∀ m ∈ x.1.weights Tryd.prog 86, m ≤ reachBytes) : ∃ u : Vl, cs = [.int .i64 u.k, .int .u64 u.n, .string u.s, .int .i64 u.o] ∧ u.ok := by
  obtain ⟨xs, n, rfl, hd, hlen, hxl, hf⟩ := DataW.trod_struct Tryd.underlying86 h
  rw [cellsVl] at hlen
  obtain ⟨c0, c1, c2, c3, rfl⟩ := list4P hlen
  have h0 : DataW.trod enc Tryd.prog W 0 sp held n 3 (([c0, c1, c2, c3].drop 0).take (Tryd.prog.cellsOf 3)) = xs[0]? := hf 0 _ rfl
  have h1 : DataW.trod enc Tryd.prog W 0 sp held n 84 (([c0, c1, c2, c3].drop 1).take (Tryd.prog.cellsOf 84)) = xs[1]? := hf 1 _ rfl
  have h2 : DataW.trod enc Tryd.prog W 0 sp held n 9 (([c0, c1, c2, c3].drop 2).take (Tryd.prog.cellsOf 9)) = xs[2]? := hf 2 _ rfl
  have h3 : DataW.trod enc Tryd.prog W 0 sp held n 3 (([c0, c1, c2, c3].drop 3).take (Tryd.prog.cellsOf 3)) = xs[3]? := hf 3 _ rfl
  obtain ⟨y0, e0⟩ := some_atP hxl (i := 0) (by decide)
  obtain ⟨y1, e1⟩ := some_atP hxl (i := 1) (by decide)
  obtain ⟨y2, e2⟩ := some_atP hxl (i := 2) (by decide)
  obtain ⟨y3, e3⟩ := some_atP hxl (i := 3) (by decide)
  rw [e0] at h0
  rw [e1] at h1
  rw [e2] at h2
  rw [e3] at h3
  simp only [cellsInt1, cellsNm, cellsTxt, List.drop_zero, List.drop_succ_cons, List.take_succ_cons, List.take_zero] at h0 h1 h2 h3
  obtain ⟨k0, hk0, _, w0⟩ := DataW.trod_int Tryd.underlying3 h0
  obtain ⟨k1, hk1, _, w1⟩ := DataW.trod_int Tryd.underlying84 h1
  obtain ⟨k2, hk2, hy2, w2⟩ := DataW.trod_string Tryd.underlying9 h2
  obtain ⟨k3, hk3, _, w3⟩ := DataW.trod_int Tryd.underlying3 h3
  injection hk0 with hk0 _
  injection hk1 with hk1 _
  injection hk2 with hk2 _
  injection hk3 with hk3 _
  subst hk0 hk1 hk2 hk3
  have hn : 0 ≤ k1 ∧ k1 ≤ 18446744073709551615 := by simpa [Lit.wf, IntKind.min, IntKind.max, IntKind.signed, IntKind.bits] using w1
  have hs : k2.size ≤ far := by
    have h4 := hw k2.data.toList.length (by
      rw [hd]
      simp only [DataW.weights, Tryd.underlying86]
      refine DataW.weights_mem_each (ts := [3, 84, 9, 3]) (j := 2) (t := 9) (d := .lit (.string k2.data.toList)) rfl ?_ _ (by simp [DataW.weights])
      rw [List.getElem?_map, e2, hy2]; rfl)
    unfold reachBytes at h4
    unfold far
    have e : k2.data.toList.length = k2.size := by simp
    omega
  exact ⟨⟨k0, k1, k2, k3⟩, rfl, i64_of w0, ⟨hn.1, by show k1 < 18446744073709551616; omega⟩, hs, i64_of w3⟩

theorem su_of {u : Value} {n : Nat} {C : Nat → List Value} (hs : SL W u n 2 (fun i j v => (C i)[j]? = some v)) (hg : ∀ i, i < n → ∃ x : Upp, C i = [.bool x.own, .int .i64 x.pl] ∧ x.ok) : ∃ us, SU W u us := by
  obtain ⟨l, hl, hq⟩ := list_of n _ hg
  refine ⟨l, ?_, fun x hx => ?_⟩
  · rw [hl]
    obtain ⟨a, cap, h1, h2, h3, h4, h5, h6⟩ := hs.form
    refine ⟨a, cap, h1, h2, h3, h4, h5, fun x hx => ⟨(h6 x hx).1, fun i hi j hj => ?_⟩⟩
    obtain ⟨v, hv, hF⟩ := (h6 x hx).2 i hi j hj
    have hi2 : i < l.length := by omega
    rw [(hq i hi2).1] at hF
    refine ⟨v, hv, l[i], List.getElem?_eq_getElem hi2, ?_⟩
    have hj2 : j = 0 ∨ j = 1 := by omega
    rcases hj2 with rfl | rfl <;> simpa using hF.symm
  · obtain ⟨i, hi, rfl⟩ := List.getElem_of_mem hx
    exact (hq i hi).2
theorem si_of {u : Value} {n : Nat} {C : Nat → List Value} (hs : SL W u n 4 (fun i j v => (C i)[j]? = some v)) (hg : ∀ i, i < n → ∃ x : Ins, C i = [.int .i64 x.op, .int .i64 x.a, .int .i64 x.b, .int .i64 x.c] ∧ x.ok) : ∃ us, SI W u us := by
  obtain ⟨l, hl, hq⟩ := list_of n _ hg
  refine ⟨l, ?_, fun x hx => ?_⟩
  · rw [hl]
    obtain ⟨a, cap, h1, h2, h3, h4, h5, h6⟩ := hs.form
    refine ⟨a, cap, h1, h2, h3, h4, h5, fun x hx => ⟨(h6 x hx).1, fun i hi j hj => ?_⟩⟩
    obtain ⟨v, hv, hF⟩ := (h6 x hx).2 i hi j hj
    have hi2 : i < l.length := by omega
    rw [(hq i hi2).1] at hF
    refine ⟨v, hv, l[i], List.getElem?_eq_getElem hi2, ?_⟩
    have hj2 : j = 0 ∨ j = 1 ∨ j = 2 ∨ j = 3 := by omega
    rcases hj2 with rfl | rfl | rfl | rfl <;> simpa using hF.symm
  · obtain ⟨i, hi, rfl⟩ := List.getElem_of_mem hx
    exact (hq i hi).2
theorem sv_of {u : Value} {n : Nat} {C : Nat → List Value} (hs : SL W u n 4 (fun i j v => (C i)[j]? = some v)) (hg : ∀ i, i < n → ∃ x : Vl, C i = [.int .i64 x.k, .int .u64 x.n, .string x.s, .int .i64 x.o] ∧ x.ok) : ∃ us, SV W u us := by
  obtain ⟨l, hl, hq⟩ := list_of n _ hg
  refine ⟨l, ?_, fun x hx => ?_⟩
  · rw [hl]
    obtain ⟨a, cap, h1, h2, h3, h4, h5, h6⟩ := hs.form
    refine ⟨a, cap, h1, h2, h3, h4, h5, fun x hx => ⟨(h6 x hx).1, fun i hi j hj => ?_⟩⟩
    obtain ⟨v, hv, hF⟩ := (h6 x hx).2 i hi j hj
    have hi2 : i < l.length := by omega
    rw [(hq i hi2).1] at hF
    refine ⟨v, hv, l[i], List.getElem?_eq_getElem hi2, ?_⟩
    have hj2 : j = 0 ∨ j = 1 ∨ j = 2 ∨ j = 3 := by omega
    rcases hj2 with rfl | rfl | rfl | rfl <;> simpa using hF.symm
  · obtain ⟨i, hi, rfl⟩ := List.getElem_of_mem hx
    exact (hq i hi).2
theorem sp_of {u : Value} {n : Nat} {C : Nat → List Value} (hs : SL W u n 6 (fun i j v => (C i)[j]? = some v)) (hg : ∀ i, i < n → ∃ x : Pr × Six, C i = [.int .i64 x.2.pa, .int .i64 x.2.rg, x.2.u, x.2.c, x.2.k, x.2.p] ∧ PR W x.1 x.2) : ∃ (ps : List Pr) (f : Nat → Six), SL W u ps.length 6 (fun i j v => v = (f i).at j) ∧ ∀ i (h : i < ps.length), PR W ps[i] (f i) := by
  obtain ⟨l, hl, hq⟩ := list_of n _ hg
  subst hl
  refine ⟨l.map (·.1), fun i => if h : i < l.length then l[i].2 else ⟨0, 0, undef, undef, undef, undef⟩, ?_, fun i hi => ?_⟩
  · rw [List.length_map]
    obtain ⟨a, cap, h1, h2, h3, h4, h5, h6⟩ := hs.form
    refine ⟨a, cap, h1, h2, h3, h4, h5, fun x hx => ⟨(h6 x hx).1, fun i hi j hj => ?_⟩⟩
    obtain ⟨v, hv, hF⟩ := (h6 x hx).2 i hi j hj
    have hi2 : i < l.length := hi
    rw [(hq i hi2).1] at hF
    refine ⟨v, hv, ?_⟩
    simp only [dif_pos hi2]
    have hj2 : j = 0 ∨ j = 1 ∨ j = 2 ∨ j = 3 ∨ j = 4 ∨ j = 5 := by omega
    rcases hj2 with rfl | rfl | rfl | rfl | rfl | rfl <;> simpa [Six.at] using hF.symm
  · have hi2 : i < l.length := by rw [List.length_map] at hi; exact hi
    simp only [List.getElem_map, dif_pos hi2]
    exact (hq i hi2).2

theorem proto_open : ∀ (fuel : Nat) (cs : List Value) (x : DataW H × List MemPlace), DataW.trod enc Tryd.prog W 0 sp held fuel 31 cs = some x → (∀ m ∈ x.1.weights Tryd.prog 31, m ≤ reachBytes) → ∃ y : Pr × Six, cs = [.int .i64 y.2.pa, .int .i64 y.2.rg, y.2.u, y.2.c, y.2.k, y.2.p] ∧ PR W y.1 y.2 := by
  intro fuel
  induction fuel using Nat.strongRecOn with
  | _ fuel ih =>
  intro cs x h hw
  obtain ⟨xs, n, hn, hd, hlen, hxl, hf⟩ := DataW.trod_struct Tryd.underlying31 h
  rw [cellsPr] at hlen
  obtain ⟨c0, c1, c2, c3, c4, c5, rfl⟩ := list6 hlen
  have h0 : DataW.trod enc Tryd.prog W 0 sp held n 3 (([c0, c1, c2, c3, c4, c5].drop 0).take (Tryd.prog.cellsOf 3)) = xs[0]? := hf 0 _ rfl
  have h1 : DataW.trod enc Tryd.prog W 0 sp held n 3 (([c0, c1, c2, c3, c4, c5].drop 1).take (Tryd.prog.cellsOf 3)) = xs[1]? := hf 1 _ rfl
  have h2 : DataW.trod enc Tryd.prog W 0 sp held n 26 (([c0, c1, c2, c3, c4, c5].drop 2).take (Tryd.prog.cellsOf 26)) = xs[2]? := hf 2 _ rfl
  have h3 : DataW.trod enc Tryd.prog W 0 sp held n 27 (([c0, c1, c2, c3, c4, c5].drop 3).take (Tryd.prog.cellsOf 27)) = xs[3]? := hf 3 _ rfl
  have h4 : DataW.trod enc Tryd.prog W 0 sp held n 28 (([c0, c1, c2, c3, c4, c5].drop 4).take (Tryd.prog.cellsOf 28)) = xs[4]? := hf 4 _ rfl
  have h5 : DataW.trod enc Tryd.prog W 0 sp held n 29 (([c0, c1, c2, c3, c4, c5].drop 5).take (Tryd.prog.cellsOf 29)) = xs[5]? := hf 5 _ rfl
  obtain ⟨y0, e0⟩ := some_atP hxl (i := 0) (by decide)
  obtain ⟨y1, e1⟩ := some_atP hxl (i := 1) (by decide)
  obtain ⟨y2, e2⟩ := some_atP hxl (i := 2) (by decide)
  obtain ⟨y3, e3⟩ := some_atP hxl (i := 3) (by decide)
  obtain ⟨y4, e4⟩ := some_atP hxl (i := 4) (by decide)
  obtain ⟨y5, e5⟩ := some_atP hxl (i := 5) (by decide)
  rw [e0] at h0
  rw [e1] at h1
  rw [e2] at h2
  rw [e3] at h3
  rw [e4] at h4
  rw [e5] at h5
  simp only [cellsInt1, cellsRU, cellsRI, cellsRV, cellsRP, List.drop_zero, List.drop_succ_cons, List.take_succ_cons, List.take_zero] at h0 h1 h2 h3 h4 h5
  have hw' : ∀ (j : Nat) (tt : TypeId) (d : DataW H), [3, 3, 26, 27, 28, 29][j]? = some tt → (xs.map (·.1))[j]? = some d → ∀ m ∈ d.weights Tryd.prog tt, m ≤ reachBytes := by
    intro j tt d h1 h2 m hm
    refine hw m ?_
    rw [hd]
    simp only [DataW.weights, Tryd.underlying31]
    exact DataW.weights_mem_each (ts := [3, 3, 26, 27, 28, 29]) h1 h2 m hm
  obtain ⟨k0, hk0, _, w0⟩ := DataW.trod_int Tryd.underlying3 h0
  obtain ⟨k1, hk1, _, w1⟩ := DataW.trod_int Tryd.underlying3 h1
  injection hk0 with hk0 _
  injection hk1 with hk1 _
  subst hk0 hk1
  obtain ⟨n2, C2, s2, g2⟩ := row_open (by decide) _ Tryd.underlying26 cellsUp bytesUp (by decide) h2 (hw' 2 _ _ rfl (by rw [List.getElem?_map, e2]; rfl)) (fun q cs x _ h _ => up_open q cs x h)
  obtain ⟨n3, C3, s3, g3⟩ := row_open (by decide) _ Tryd.underlying27 cellsIns bytesIns (by decide) h3 (hw' 3 _ _ rfl (by rw [List.getElem?_map, e3]; rfl)) (fun q cs x _ h _ => ins_open q cs x h)
  obtain ⟨n4, C4, s4, g4⟩ := row_open (by decide) _ Tryd.underlying28 cellsVl bytesVl (by decide) h4 (hw' 4 _ _ rfl (by rw [List.getElem?_map, e4]; rfl)) (fun q cs x _ h hh => vl_open q cs x h hh)
  obtain ⟨n5, C5, s5, g5⟩ := row_open (by decide) _ Tryd.underlying29 cellsPr bytesPr (by decide) h5 (hw' 5 _ _ rfl (by rw [List.getElem?_map, e5]; rfl)) (fun q cs x hq h hh => ih q (by omega) cs x h hh)
  obtain ⟨us, hu⟩ := su_of s2 g2
  obtain ⟨is, hi⟩ := si_of s3 g3
  obtain ⟨ks, hk⟩ := sv_of s4 g4
  obtain ⟨ps, f, hp, hf'⟩ := sp_of s5 g5
  refine ⟨(.mk k0 k1 us is ks ps, ⟨k0, k1, c2, c3, c4, c5⟩), rfl, ?_⟩
  rw [PR_mk]
  exact ⟨rfl, rfl, i64_of w0, i64_of w1, hu, hi, hk, f, hp, hf'⟩
end

/-- A function that came in. -/
theorem open_proto {H : Type} {enc : TypeId × Value → H} {W : World} {base : Nat} {v : Value} {d : DataW H} {p : List MemPlace}
    (hval : Value.okWide Tryd.prog W .any base 31 v) (h0 : DataW.Trod enc Tryd.prog W 0 (fun _ => true) true 31 v d p) {ts : List TypeId} {ds : List (DataW H)} (hz : (DataW.weightsEach Tryd.prog ts ds).all (· ≤ reachBytes) = true) {j : Nat} (ht : ts[j]? = some 31) (hd : ds[j]? = some d) : ∃ (t : Pr) (x : Six), v = x.v ∧ PR W t x := by
  obtain ⟨fuel, hf⟩ := h0
  obtain ⟨⟨t, x⟩, e, hc⟩ := proto_open fuel _ _ hf (fun m hm => by
    have := List.all_eq_true.1 hz m (DataW.weights_mem_each ht hd m hm)
    simpa using this)
  simp only [Value.okWide, Tryd.underlying31] at hval
  obtain ⟨cs, rfl, _⟩ := hval
  refine ⟨t, x, ?_, hc⟩
  have : cs = #[.int .i64 x.pa, .int .i64 x.rg, x.u, x.c, x.k, x.p] := by
    simp [Value.cells] at e
    apply Array.ext'
    exact e
  rw [this]
  rfl

end Go.Proofs.YtlfbjnbjnfmnlaaDoor
namespace Go.Proofs.YtlfbjnbjnfmnlaaDoor.progChecks
set_option maxRecDepth 100000
open Go.ChangeShapes Go.WideShapes Go.ChangeAt Go.RowKit

theorem contract (H : Type) (enc : TypeId × Value → H) (W : World) (base : Nat) (args : Array Value) (ds gs : List (DataW H)) (before : List MemPlace)
    (hval0 : ∀ (j : Nat) t v, Tryd.f4.params[j]? = some t → args[j]? = some v → Value.okWide Tryd.prog W .any base t v)
    (hW : DataW.Whole enc Tryd.prog Tryd.f4.params.toList Rows.progChecksSpec.vars false W args.toList ds gs before) (hL : laidMetH Tryd.prog laidAll W)
    (hsz : (DataW.weightsEach Tryd.prog (Tryd.f4.params.toList ++ (OpenSpec.ofChange Rows.progChecksSpec).bare.plain.varTypes Tryd.prog) (ds ++ gs)).all (· ≤ reachBytes) = true) :
    Calls Tryd.prog 4 args W fun e W' => ∃ v, e = .returned v ∧ Rows.progChecksSpec.post enc Tryd.prog Tryd.f4 false true false false W args v W' := by
  have hval : ∀ (j : Nat) t v, Tryd.f4.params[j]? = some t → args[j]? = some v → Value.okWide Tryd.prog W .any base t v := hval0
  have hW' := hW
  obtain ⟨p, q, hA0, hV, rfl, hfz, hnd⟩ := hW
  have hA : DataW.TrodAll enc Tryd.prog W 0 (fun _ => true) true Tryd.f4.params.toList args.toList ds p := hA0
  rw [Tryd.params4] at hA hval hsz
  obtain ⟨v0, vs0, d0, ds0, p0, q0, hargs, rfl, rfl, h0, r0⟩ := trodAll_cons hA
  obtain ⟨rfl, rfl, rfl⟩ := trodAll_nil r0
  obtain rfl : args = #[v0] := by cases args; simp_all
  obtain ⟨rfl, rfl⟩ := trodVars_none hV
  have lt0 : ∀ x ∈ p0, x.block < W.heap.size := by obtain ⟨m, hm⟩ := h0; exact DataW.trod_lt m _ _ _ hm
  obtain ⟨t0, x0, rfl, b0⟩ := open_proto (hval 0 31 v0 rfl rfl) h0 hsz (j := 0) rfl rfl
  obtain ⟨hT, hTB⟩ := bothTabs hL
  clear hA0 hval0
  refine (progChecks_walk t0 x0 W b0 hT hTB).mono fun e W' ⟨he, bel⟩ => ?_
  subst he
  exact ⟨_, rfl, _, _, _, [], _, [], hW', trodAll_mk1 (shut_bool Tryd.underlying4 _), (trodAll_cons_mk (Below.trod laidOut (by kernel_rfl) (of_decide_eq_true (by kernel_rfl)) h0 bel lt0) trodAll_mk0), rfl, bel.frame _, fun h => by cases h⟩

theorem laid_met (os : Os) : laidMet Tryd.prog Rows.progChecksRow.laid ((World.doorLaid Tryd.prog 4000 os).forCall (fun _ _ => 0) ⟨#[], #[.agg #[.int .i64 0, .int .i64 0, .slice none 0 0, .slice none 0 0, .slice none 0 0, .slice none 0 0]], []⟩).memory :=
  laidMet_of_run' 8 (by kernel_rfl) (by kernel_rfl)
theorem reads (os : Os) {H : Type} (enc : TypeId × Value → H) : ∃ places, DataW.whole enc Tryd.prog ((World.doorLaid Tryd.prog 4000 os).forCall (fun _ _ => 0) ⟨#[], #[.agg #[.int .i64 0, .int .i64 0, .slice none 0 0, .slice none 0 0, .slice none 0 0, .slice none 0 0]], []⟩).memory Tryd.f4.params.toList Rows.progChecksSpec.vars false (#[.agg #[.int .i64 0, .int .i64 0, .slice none 0 0, .slice none 0 0, .slice none 0 0, .slice none 0 0]] : Array Value).toList 8 = some ([.agg [.lit (.int .i64 0), .lit (.int .i64 0), .nil, .nil, .nil, .nil]], [], places) :=
  ⟨[], by kernel_rfl⟩

set_option maxRecDepth 100000 in
theorem lifted (os : Os) (started : os.Started) (H : Type) (enc : TypeId × Value → H) (F : Stop.Interp) :
    ReturnsInHanded {} Tryd.checked os 4 .any ((OpenSpec.ofChange Rows.progChecksSpec).preRow enc Tryd.prog Tryd.f4 Rows.progChecksRow.domain false Rows.progChecksRow.laid) (((OpenSpec.ofChange Rows.progChecksSpec).at F).post enc Tryd.prog Tryd.f4 false true false false) := by
  obtain ⟨places, hx⟩ := reads os enc
  refine returnsInHanded_of_row (C := Tryd.checked) (s := OpenSpec.ofChange Rows.progChecksSpec) ownKnob_none started (by kernel_rfl) Tryd.func4
    (witness_row_at (enc := enc) (C := Tryd.checked) false (World.doorLaid Tryd.prog 4000 os) #[.agg #[.int .i64 0, .int .i64 0, .slice none 0 0, .slice none 0 0, .slice none 0 0, .slice none 0 0]] rfl (by kernel_rfl) (by kernel_rfl) (by kernel_rfl)
      (OpenSpec.preRow_of_cond 8 hx (by kernel_rfl) (fun k hk => by cases hk) (by kernel_rfl) (laid_met os))) ?_
  intro W base args ds gs before hval hW _ _ hsz hL _ _
  exact contract H enc W base args ds gs before hval hW hL hsz

theorem said : Rows.ProgChecksSaid :=
  OpenClaim.holds_of_cond 4 Tryd.f4 rfl rfl rfl rfl rfl rfl rfl ⟨rfl, rfl, rfl, rfl, rfl⟩ rfl rfl rfl rfl rfl (by kernel_rfl) Tryd.func4 (by kernel_rfl)
    (of_decide_eq_true (by kernel_rfl)) (by unfold Func.isWrapper; first | (rw [if_pos (by decide +kernel)]; kernel_rfl) | (rw [if_neg (by decide +kernel)]; exact ⟨rfl, rfl⟩))
    (fun os started H enc _ F => by rw [OpenClaim.pre_eq_preRow]; exact lifted os started H enc F)

theorem plain (f : FuncId) (fn : Func) (hf : Tryd.pinned.checked.prog.funcNamed "minstrel/minstrellaw13.ProgChecks" = some f) (hfn : Tryd.pinned.checked.prog.funcs[f]? = some fn) :
    false = Tryd.pinned.checked.prog.looks [] ∧ ∀ (j : Nat) t, fn.params[j]? = some t → Tryd.pinned.checked.prog.wantsStandIn t = false := by
  obtain rfl : f = 4 := Option.some.inj ((show Tryd.prog.funcNamed "minstrel/minstrellaw13.ProgChecks" = some 4 by kernel_rfl).symm.trans hf) |>.symm
  obtain rfl : fn = Tryd.f4 := (Option.some.inj (Tryd.func4.symm.trans hfn)).symm
  refine ⟨by kernel_rfl, fun j t ht => ?_⟩
  rw [Tryd.params4] at ht
  have hm : t ∈ [31] := by simpa using Array.mem_of_getElem? ht
  have hall : ([31].all fun u => !Tryd.prog.wantsStandIn u) = true := by kernel_rfl
  exact (show Tryd.prog.wantsStandIn t = false by simpa using List.all_eq_true.1 hall t hm)

/-- The statement. -/
theorem proved : Rows.ProgChecksCardSaid :=
  Claim7.holds_tied_plain_at .later [] _ _ _ _ said (fun _ h => by cases h) (by kernel_rfl) (fun _ h => by cases h) progChecks_row_tie rfl ⟨rfl, rfl⟩ (by kernel_rfl) rfl plain (by kernel_rfl)
end Go.Proofs.YtlfbjnbjnfmnlaaDoor.progChecks
