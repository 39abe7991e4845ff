/-
  Layer 15: a text's bytes in a block that is written; the landed Upper and Reverse, walked.
-/
import Derived.Test.YtflbolbhdiloeaaTtLaws
import Derived.Laws.IdiomStrings
import Derived.Shelf.RegionOpenPlain
namespace Go.Proofs.Ytflbolbhdiloeaa
set_option maxRecDepth 100000
open Go.RowKit Txt Tt

/-- The first n cells of the block g hold the bytes a, and may be written. -/
def Rw (w : World) (g n : Nat) (a : Nat → UInt8) : Prop := ∀ k, k < n → w.cell? ⟨g, k, none⟩ = some (.int .u8 ((a k).toNat : Int)) ∧ w.frozen? ⟨g, k, none⟩ = false
theorem Rw.set {w : World} {g n : Nat} {a : Nat → UInt8} (h : Rw w g n a) (j : Nat) (c : UInt8) : Rw (w.setCell ⟨g, j, none⟩ (.int .u8 (c.toNat : Int))) g n (fun k => if k = j then c else a k) := by
  intro k hk
  obtain ⟨h1, h2⟩ := h k hk
  refine ⟨?_, by rw [World.frozen?_setCell]; exact h2⟩
  by_cases e : k = j
  · subst e
    simp only [if_true]
    exact World.cell?_setCell_same _ _ _ h1
  · simp only [if_neg e]
    rw [World.cell?_setCell_other]
    · exact h1
    · intro e2
      injection e2 with _ e3
      exact e e3.symm
theorem Rw.same {w : World} {g n : Nat} {a b : Nat → UInt8} (h : Rw w g n a) (e : ∀ k, k < n → a k = b k) : Rw w g n b := fun k hk => by rw [← e k hk]; exact h k hk
theorem Rw.drew {w : World} {g n : Nat} {a : Nat → UInt8} (h : Rw w g n a) : Rw w.drew g n a := h
theorem Rw.conv {w : World} {g n : Nat} {l : List UInt8} (h : Rw w g n (fun k => l.getD k 0)) (hn : l.length = n) (cap : Nat) : (convert 42 9 (.slice (some ⟨g, 0, none⟩) n cap)).run Try.prog w = .ok (.string (bs l)) w := by
  subst hn
  refine run_convert_bytes_back w _ _ 5 ⟨g, 0, none⟩ cap l Try.underlying42 Try.underlying5 Try.underlying9 ?_
  intro j hj
  have := (h j hj).1
  rw [Addr.add_mid, Nat.zero_add, this]
  simp [List.getElem?_eq_getElem hj]
/-- A text as bytes: a new block, the bytes, and what it may be written. -/
theorem bytes_any (l : List UInt8) (w : World) : ∃ cap w', (convert 9 42 (.string (bs l))).run Try.prog w = .ok (.slice (some ⟨w.heap.size, 0, none⟩) l.length cap) w' ∧ l.length ≤ cap ∧ Rw w' w.heap.size l.length (fun k => l.getD k 0) ∧ Below w.heap.size w w' ∧ w.heap.size < w'.heap.size := by
  have h := run_bytes_of_string (P := Try.prog) w 9 42 5 (bs l) Try.underlying9 Try.underlying42 Try.underlying5
  have hsz := bs_size l
  rw [hsz] at h
  refine ⟨_, _, h, grownCap_ge _ _ _ _, ?_, ?_, by simp⟩
  · intro k hk
    have hge := grownCap_ge w l.length 0 5
    have hlt : k < (bytesRow (bs l) (grownCap w l.length 0 5)).size := by unfold bytesRow; simp [hsz]; omega
    have hkd : k < (bs l).data.size := by unfold bs; simpa using hk
    have hgd : (bs l).data[k] = l.getD k 0 := by
      have e := bs_get l k (by rw [bs_size]; exact hk)
      rw [ByteArray.getElem_eq_getElem_data] at e
      rw [e, List.getD_eq_getElem?_getD, List.getElem?_eq_getElem hk]; rfl
    refine ⟨?_, ?_⟩
    · show (w.drew.alloc _).cell? ⟨w.drew.heap.size, k, none⟩ = _
      rw [World.cell?_alloc_mark, bytesRow_at _ _ _ hkd, hgd]
    · show (w.drew.alloc _).frozen? ⟨w.drew.heap.size, k, none⟩ = _
      rw [World.frozen?_alloc_mark, decide_eq_false (by omega)]; rfl
  · exact ((Below.refl _ w).drew).alloc (Nat.le_refl _) _

theorem below_set (w wr : World) (i : Nat) (v : Value) : Below w.heap.size wr (wr.setCell ⟨w.heap.size, i, none⟩ v) := (Below.refl w.heap.size wr).setCell (Nat.le_refl w.heap.size) v
theorem getD_map_up (l : List UInt8) (k : Nat) (h : k < l.length) : (l.map upB).getD k 0 = upB (l.getD k 0) := by
  rw [List.getD_eq_getElem?_getD, List.getD_eq_getElem?_getD, List.getElem?_map, List.getElem?_eq_getElem h]; rfl

set_option maxHeartbeats 2000000 in
theorem up_any (l : List UInt8) (w : World) (hl : l.length ≤ 140737488351232) :
    Calls Try.prog 20 #[.string (bs l)] w fun e w' => e = .returned (.string (bs (l.map upB))) ∧ Below w.heap.size w w' := by
  obtain ⟨cap, w1, hcv, hcap, hrw, hb1, hlt⟩ := bytes_any l w
  have hsz := bs_size l
  have HQ : Hid (∀ w', Rw w' w.heap.size l.length (fun k => (l.map upB).getD k 0) → (convert 42 9 (.slice (some ⟨w.heap.size, 0, none⟩) l.length cap)).run Try.prog w' = .ok (.string (bs (l.map upB))) w') := fun w' h => h.conv (by simp) cap
  generalize bs l = L at *
  have HH : Hid (Rw w1 w.heap.size l.length (fun k => l.getD k 0) ∧ Below w.heap.size w w1) := ⟨hrw, hb1⟩
  clear hrw hb1
  go_enter Try.func20, Try.ntmps20
  go_wp2_with fail
  go_loopg [4, 5, 10] l.length (fun k _ _ t10 wr => ∃ i : Nat, t10 = .int .i64 (i : Int) ∧ i ≤ l.length ∧ Hid (k = l.length - i ∧ Below w.heap.size w wr ∧ Rw wr w.heap.size l.length (fun k => if k < i then upB (l.getD k 0) else l.getD k 0)))
  case atStart =>
    refine ⟨0, rfl, Nat.zero_le _, ⟨rfl, HH.out.2, HH.out.1.same fun k _ => by simp⟩⟩
  case round =>
    obtain ⟨i, rfl, hil, HI⟩ := hrel
    obtain ⟨hk, hbl, hrw⟩ := HI.out
    by_cases c : i = l.length
    · have hq := HQ.out wr (hrw.same fun k hk => by rw [getD_map_up l k hk, if_pos (by omega)])
      have HB : Hid (Below w.heap.size w wr) := hbl
      obtain ⟨R, hR⟩ : ∃ R, bs (l.map upB) = R := ⟨_, rfl⟩
      rw [hR] at hq
      have HR : Hid (bs (l.map upB) = R) := hR
      clear HI hbl hrw hk hR HQ HH hcv
      subst c
      go_wp2
      go_ret
      exact ⟨by rw [HR.out]; rfl, HB.out⟩
    · have cl : i < l.length := by omega
      obtain ⟨h1, h2⟩ := hrw i cl
      simp only [if_neg (show ¬ i < i by omega)] at h1
      have hst := hrw.set i (upB (l.getD i 0))
      have hnx : ∀ k, k < l.length → (if k = i then upB (l.getD i 0) else if k < i then upB (l.getD k 0) else l.getD k 0) = (if k < i + 1 then upB (l.getD k 0) else l.getD k 0) := by
        intro k _
        by_cases e : k = i
        · subst e; rw [if_pos rfl, if_pos (by omega)]
        · rw [if_neg e]
          by_cases e2 : k < i
          · rw [if_pos e2, if_pos (by omega)]
          · rw [if_neg e2, if_neg (by omega)]
      have HN : Hid (Rw (wr.setCell ⟨w.heap.size, i, none⟩ (.int .u8 ((upB (l.getD i 0)).toNat : Int))) w.heap.size l.length (fun k => if k < i + 1 then upB (l.getD k 0) else l.getD k 0) ∧ Below w.heap.size w (wr.setCell ⟨w.heap.size, i, none⟩ (.int .u8 ((upB (l.getD i 0)).toNat : Int)))) :=
        ⟨hst.same hnx, hbl.trans (below_set w wr i _)⟩
      have HS : Hid ((upB (l.getD i 0) = l.getD i 0) → Rw wr w.heap.size l.length (fun k => if k < i + 1 then upB (l.getD k 0) else l.getD k 0) ∧ Below w.heap.size w wr) := fun e =>
        ⟨hrw.same fun k hk => by
          rw [← hnx k hk]
          by_cases e2 : k = i
          · subst e2; rw [if_neg (by omega), if_pos rfl, e]
          · rw [if_neg e2], hbl⟩
      have h256 := (l.getD i 0).toNat_lt
      have HU1 : Hid ((97 ≤ (l.getD i 0).toNat ∧ (l.getD i 0).toNat ≤ 122) → ((upB (l.getD i 0)).toNat : Int) = (l.getD i 0).toNat - 32) := fun h => upB_yes h
      have HU2 : Hid (¬ (97 ≤ (l.getD i 0).toNat ∧ (l.getD i 0).toNat ≤ 122) → upB (l.getD i 0) = l.getD i 0) := fun h => upB_no h
      clear HI hbl hrw hst hnx HQ HH hcv
      generalize upB (l.getD i 0) = cu at *
      generalize l.getD i 0 = cc at *
      by_cases c1 : (97 : Int) ≤ (cc.toNat : Int)
      · by_cases c2 : (cc.toNat : Int) ≤ 122
        · have e := HU1.out ⟨by omega, by omega⟩
          rw [e] at HN
          have e3 : (cc.toNat : Int) - 97 + 65 = (cc.toNat : Int) - 32 := by omega
          clear HU1 HU2 HS
          go_wp2_with fail
          go_roundg (l.length - (i + 1))
          case measure => omega
          case rel => exact ⟨i + 1, by go_num, by omega, ⟨rfl, HN.out.2, HN.out.1⟩⟩
        · have hs := HS.out (HU2.out (by omega))
          have HS2 : Hid _ := hs
          clear HU1 HU2 HS hs HN
          go_wp2_with fail
          go_roundg (l.length - (i + 1))
          case measure => omega
          case rel => exact ⟨i + 1, by go_num, by omega, ⟨rfl, HS2.out.2, HS2.out.1⟩⟩
      · have hs := HS.out (HU2.out (by omega))
        have HS2 : Hid _ := hs
        clear HU1 HU2 HS hs HN
        go_wp2_with fail
        go_roundg (l.length - (i + 1))
        case measure => omega
        case rel => exact ⟨i + 1, by go_num, by omega, ⟨rfl, HS2.out.2, HS2.out.1⟩⟩

end Go.Proofs.Ytflbolbhdiloeaa
