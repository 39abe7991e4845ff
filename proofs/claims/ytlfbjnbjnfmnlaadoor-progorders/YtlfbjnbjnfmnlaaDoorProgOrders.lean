/-
  ProgOrders: what each order is called, and costs, walked.
-/
import Derived.Test.YtlfbjnbjnfmnlaaDoorPgLives
namespace Go.Proofs.YtlfbjnbjnfmnlaaDoor
set_option maxRecDepth 100000
open Go.RowKit Txt Pg

set_option maxHeartbeats 2000000 in
theorem refName_any (op : Int) (w : World) : Calls Tryd.prog 10 #[.int .i64 op] w fun e w' => e = .returned (.string (bs (rowOf op).1)) ∧ Below w.heap.size w w' := by
  have hI := fun w => ris_any op w
  by_cases c : 0 ≤ op ∧ op < 38
  · obtain ⟨r, rfl⟩ := Int.eq_ofNat_of_zero_le c.1
    have hr : r < 38 := by omega
    have h1 : isOp (r : Int) = true := by unfold isOp; simp; omega
    have hR : rowOf (r : Int) = ordL.getD r noRow := by unfold rowOf; rw [if_pos c]; rfl
    rw [hR]
    rw [h1] at hI
    obtain ⟨A, hA⟩ : ∃ A : Array Value, A = (ordL.map fun x => Value.string (bs x.1)).toArray := ⟨_, rfl⟩
    have hAr : A[r]? = some (.string (bs (ordL.getD r noRow).1)) := by
      rw [hA, List.getElem?_toArray, List.getElem?_map, List.getD_eq_getElem?_getD, List.getElem?_eq_getElem (show r < ordL.length from hr)]
      rfl
    generalize bs (ordL.getD r noRow).1 = X at *
    have hlt : (r : Int) < 38 := by omega
    clear c h1 hR
    go_enter Tryd.func10, Tryd.ntmps10
    go_wp2_with fail
    refine (hI _).mono ?_
    rintro e w1 ⟨rfl, rfl⟩
    go_wp2
    go_ret
    have key : ∀ (L : List Value) (h : r < L.length), L.toArray = A → L[r] = .string X := by
      intro L h e
      have := hAr
      rw [← e, List.getElem?_toArray, List.getElem?_eq_getElem h] at this
      injection this
    refine ⟨congrArg Ending.returned (key _ _ (by rw [hA]; rfl)), (Below.refl _ _).alloc (Nat.le_refl _) _⟩
  · have h1 : isOp op = false := by unfold isOp; simp; omega
    have hR : rowOf op = noRow := by unfold rowOf; rw [if_neg c]
    rw [hR]
    rw [h1] at hI
    clear c h1 hR
    go_enter Tryd.func10, Tryd.ntmps10
    go_wp2_with fail
    refine (hI _).mono ?_
    rintro e w1 ⟨rfl, rfl⟩
    go_wp2
    go_ret
    exact ⟨rfl, Below.refl _ _⟩

set_option maxHeartbeats 4000000 in
theorem refCost_any (op : Int) (w : World) : Calls Tryd.prog 12 #[.int .i64 op] w fun e w' => e = .returned (.int .i64 (rowOf op).2.1) ∧ w' = w := by
  have hI := fun w => ris_any op w
  by_cases c : 0 ≤ op ∧ op < 38
  · have h1 : isOp op = true := by unfold isOp; simp; omega
    have hR : (rowOf op).2.1 = if (op = 2 ∨ op = 3 ∨ op = 4 ∨ op = 29 ∨ op = 30 ∨ op = 31 ∨ op = 34) then 0 else 1 := by
      obtain ⟨r, rfl⟩ := Int.eq_ofNat_of_zero_le c.1
      have hr : r < 38 := by omega
      rw [show rowOf (r : Int) = ordL.getD r noRow by unfold rowOf; rw [if_pos c]; rfl, refCost_tab r hr]
      congr 1
      exact propext (by omega)
    rw [hR]
    rw [h1] at hI
    by_cases d : op = 2 ∨ op = 3 ∨ op = 4 ∨ op = 29 ∨ op = 30 ∨ op = 31 ∨ op = 34
    · rw [if_pos d]
      clear c h1 hR
      rcases d with rfl | rfl | rfl | rfl | rfl | rfl | rfl
      all_goals
        go_enter Tryd.func12, Tryd.ntmps12
        go_wp2_with fail
        refine (hI _).mono ?_
        rintro e w1 ⟨rfl, rfl⟩
        go_wp2
        go_ret
        exact ⟨rfl, rfl⟩
    · rw [if_neg d]
      have d1 : (op == 2) = false := by simp; omega
      have d2 : (op == 3) = false := by simp; omega
      have d3 : (op == 4) = false := by simp; omega
      have d4 : (op == 29) = false := by simp; omega
      have d5 : (op == 30) = false := by simp; omega
      have d6 : (op == 31) = false := by simp; omega
      have d7 : (op == 34) = false := by simp; omega
      clear c h1 hR d
      go_enter Tryd.func12, Tryd.ntmps12
      go_wp2_with fail
      refine (hI _).mono ?_
      rintro e w1 ⟨rfl, rfl⟩
      go_wp2
      go_ret
      exact ⟨rfl, rfl⟩
  · have h1 : isOp op = false := by unfold isOp; simp; omega
    have hR : rowOf op = noRow := by unfold rowOf; rw [if_neg c]
    rw [hR]
    rw [h1] at hI
    clear c h1 hR
    go_enter Tryd.func12, Tryd.ntmps12
    go_wp2_with fail
    refine (hI _).mono ?_
    rintro e w1 ⟨rfl, rfl⟩
    go_wp2
    go_ret
    exact ⟨rfl, rfl⟩

set_option maxHeartbeats 2000000 in
theorem progOrders_walk (op : Int) (w : World) (hT : Ot w) (hTB : TB w) :
    Calls Tryd.prog 3 #[.int .i64 op] w fun e w' => e = .returned (.bool true) ∧ Below w.heap.size w w' := by
  have h00 := hT.1
  have HT := hide_p hT
  have HTB := hide_p hTB
  have H1 := pname_any op w hT
  have H2 := fun w => refName_any op w
  have H3 : Hid (∀ w, Ot w → Calls Tryd.prog 11 #[.int .i64 op] w fun e w' => e = .returned (.int .i64 (rowOf op).2.1) ∧ Below w.heap.size w w') := fun w h => pcost_any op w h
  have H4 := fun w => refCost_any op w
  generalize bs (rowOf op).1 = X at *
  generalize (rowOf op).2.1 = Y at *
  clear hT hTB
  go_enter Tryd.func3, Tryd.ntmps3
  go_wp2_with fail
  refine H1.mono ?_
  rintro e w1 ⟨rfl, hb1⟩
  have HB1 := hide_p hb1
  clear hb1 H1
  go_wp2_with fail
  refine (H2 _).mono ?_
  rintro e w2 ⟨rfl, hb2⟩
  have HB2 : Hid (Below w.heap.size w w2) := HB1.out.trans (hb2.mono HB1.out.size)
  clear hb2
  go_wp2_with fail
  refine (H3.out _ (HT.out.below HB2.out h00)).mono ?_
  rintro e w3 ⟨rfl, hb3⟩
  have HB3 : Hid (Below w.heap.size w w3) := HB2.out.trans (hb3.mono HB2.out.size)
  clear hb3
  go_wp2_with fail
  refine (H4 _).mono ?_
  rintro e w4 ⟨rfl, rfl⟩
  go_wp2_with fail
  refine (glives_any _ (HT.out.below HB3.out h00) (HTB.out.below HB3.out)).mono ?_
  rintro e w5 ⟨rfl, hb5⟩
  have HB5 : Hid (Below w.heap.size w w5) := HB3.out.trans (hb5.mono HB3.out.size)
  clear hb5
  go_wp2
  go_ret
  exact ⟨rfl, HB5.out⟩

end Go.Proofs.YtlfbjnbjnfmnlaaDoor
