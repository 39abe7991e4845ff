/-
  Layer 15: the library's Reverse of bytes, the landed Reverse, walked.
-/
import Derived.Test.YtflbolbhdiloeaaTtRow
namespace Go.Proofs.Ytflbolbhdiloeaa
set_option maxRecDepth 100000
open Go.RowKit Txt Tt

/-- How far the bytes are turned about. -/
def rvf (a : Nat → UInt8) (n i k : Nat) : UInt8 := if k < i ∨ n ≤ k + i then a (n - 1 - k) else a k
theorem rvf_zero (a : Nat → UInt8) (n k : Nat) (h : k < n) : rvf a n 0 k = a k := by unfold rvf; rw [if_neg (by omega)]
theorem rvf_next (a : Nat → UInt8) (n i j : Nat) (h : i < j) (hj : j + i + 1 = n) (k : Nat) (hk : k < n) : (if k = j then rvf a n i i else if k = i then rvf a n i j else rvf a n i k) = rvf a n (i + 1) k := by
  have hi : rvf a n i i = a i := by unfold rvf; rw [if_neg (by omega)]
  have hjj : rvf a n i j = a j := by unfold rvf; rw [if_neg (by omega)]
  rw [hi, hjj]
  unfold rvf
  by_cases c1 : k = j
  · subst c1; rw [if_pos rfl, if_pos (by omega), show n - 1 - k = i by omega]
  · rw [if_neg c1]
    by_cases c2 : k = i
    · subst c2; rw [if_pos rfl, if_pos (by omega), show n - 1 - k = j by omega]
    · rw [if_neg c2]
      by_cases c3 : k < i ∨ n ≤ k + i
      · rw [if_pos c3, if_pos (by omega)]
      · rw [if_neg c3, if_neg (by omega)]
theorem rvf_end (a : Nat → UInt8) (n i : Nat) (h : n ≤ i + i + 1) (k : Nat) (hk : k < n) : rvf a n i k = a (n - 1 - k) := by
  unfold rvf
  by_cases c3 : k < i ∨ n ≤ k + i
  · rw [if_pos c3]
  · rw [if_neg c3, show n - 1 - k = k by omega]

set_option maxHeartbeats 2000000 in
theorem srev_any (B g n cap : Nat) (a : Nat → UInt8) (w : World) (h : Rw w g n a) (hB : B ≤ g) (hn : n ≤ 140737488351232) :
    Calls Try.prog 32 #[.slice (some ⟨g, 0, none⟩) n cap] w fun e w' => e = .returned (.tuple #[]) ∧ Rw w' g n (fun k => a (n - 1 - k)) ∧ Below B w w' := by
  have mixed : Try.prog.follows Departure.mixedOrders = true := by kernel_rfl
  have HH : Hid (Rw w g n a) := h
  clear h
  go_enter Try.func32, Try.ntmps32
  go_wp2_with fail
  go_loopg [2, 3] n (fun k t2 t3 wr => ∃ i : Nat, t2 = .int .i64 (i : Int) ∧ t3 = .int .i64 ((n : Int) - 1 - i) ∧ i ≤ n ∧ Hid (k = n - i ∧ Below B w wr ∧ Rw wr g n (rvf a n i)))
  case atStart =>
    refine ⟨0, rfl, by go_num, Nat.zero_le _, ⟨rfl, Below.refl _ _, HH.out.same fun k hk => (rvf_zero a n k hk).symm⟩⟩
  case round =>
    obtain ⟨i, rfl, rfl, hil, HI⟩ := hrel
    obtain ⟨hk, hbl, hrw⟩ := HI.out
    by_cases c : (i : Int) < (n : Int) - 1 - i
    · obtain ⟨j, hj⟩ : ∃ j : Nat, j + i + 1 = n := ⟨n - i - 1, by omega⟩
      have hji : (n : Int) - 1 - i = (j : Int) := by omega
      have hij : i < j := by omega
      obtain ⟨ci, fi⟩ := hrw i (by omega)
      obtain ⟨cj, fj⟩ := hrw j (by omega)
      have h1 := (hrw.set i (rvf a n i j)).set j (rvf a n i i)
      have HN : Hid (Rw ((wr.setCell ⟨g, i, none⟩ (.int .u8 ((rvf a n i j).toNat : Int))).setCell ⟨g, j, none⟩ (.int .u8 ((rvf a n i i).toNat : Int))) g n (rvf a n (i + 1)) ∧ Below B w ((wr.setCell ⟨g, i, none⟩ (.int .u8 ((rvf a n i j).toNat : Int))).setCell ⟨g, j, none⟩ (.int .u8 ((rvf a n i i).toNat : Int)))) :=
        ⟨h1.same fun k hk => rvf_next a n i j hij hj k hk, (hbl.setCell hB _).setCell hB _⟩
      rw [hji] at c ⊢
      clear HI hbl hrw h1 HH
      generalize rvf a n i i = xi at *
      generalize rvf a n i j = xj at *
      have cj1 : (j : Int) < (n : Int) := by omega
      have ci1 : (i : Int) < (n : Int) := by omega
      go_wp2_with fail
      go_region_o
      go_wp2_with fail
      go_roundg (n - (i + 1))
      case measure => omega
      case rel => exact ⟨i + 1, by go_num, by go_num, by omega, ⟨rfl, HN.out.2.drew, HN.out.1.drew⟩⟩
    · have HR : Hid (Rw wr g n (fun k => a (n - 1 - k)) ∧ Below B w wr) := ⟨hrw.same fun k hk => rvf_end a n i (by omega) k hk, hbl⟩
      clear HI hbl hrw HH
      go_wp2
      go_end0
      exact ⟨rfl, HR.out.1, HR.out.2⟩

set_option maxHeartbeats 1000000 in
theorem rev_any (l : List UInt8) (w : World) (hl : l.length ≤ 140737488351232) :
    Calls Try.prog 22 #[.string (bs l)] w fun e w' => e = .returned (.string (bs l.reverse)) ∧ Below w.heap.size w w' := by
  obtain ⟨cap, w1, hcv, hcap, hrw, hb1, hlt⟩ := bytes_any l w
  have hsr := srev_any w.heap.size w.heap.size l.length cap _ w1 hrw (Nat.le_refl _) hl
  have HQ : Hid (∀ w', Rw w' w.heap.size l.length (fun k => l.getD (l.length - 1 - k) 0) → (convert 42 9 (.slice (some ⟨w.heap.size, 0, none⟩) l.length cap)).run Try.prog w' = .ok (.string (bs l.reverse)) w') := fun w' h => by
    refine Rw.conv (h.same fun k hk => ?_) (by simp) cap
    rw [List.getD_eq_getElem?_getD, List.getD_eq_getElem?_getD, List.getElem?_reverse hk]
  have HB1 : Hid (Below w.heap.size w w1) := hb1
  obtain ⟨R, hR⟩ : ∃ R, bs l.reverse = R := ⟨_, rfl⟩
  rw [hR] at HQ ⊢
  generalize bs l = L at *
  clear hrw hb1 hR
  go_enter Try.func22, Try.ntmps22
  go_wp2_with fail
  refine hsr.mono ?_
  rintro e w2 ⟨rfl, hr2, hb2⟩
  have hq := HQ.out w2 hr2
  have HB2 : Hid (Below w.heap.size w w2) := HB1.out.trans hb2
  clear hr2 hb2 HQ hcv
  go_wp2
  go_ret
  exact ⟨rfl, HB2.out⟩

end Go.Proofs.Ytflbolbhdiloeaa
