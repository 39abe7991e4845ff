/-
  Layer 15: the reference's Reverse, Upper and Sub, walked.
-/
import Derived.Test.YtflbolbhdiloeaaTtSmall
namespace Go.Proofs.Ytflbolbhdiloeaa
set_option maxRecDepth 100000
open Go.RowKit Txt Tt

theorem ob_empty (w : World) : OB (w.alloc (.cells #[] 5)) w.heap.size (.slice (some ⟨w.heap.size, 0, none⟩) 0 0) [] := by
  refine ⟨by simp [b8], .inr ⟨w.heap.size, 0, #[], rfl, Nat.le_refl _, ?_, by simp, by simp, by simp, by simp [b8]⟩⟩
  show (w.heap.push _)[w.heap.size]? = _
  exact Array.getElem?_push_size
theorem rev_next {l : List UInt8} {i : Nat} (h : i < l.length) : (l.drop i).reverse = (l.drop (i + 1)).reverse ++ [l[i]] := by
  rw [List.drop_eq_getElem_cons h, List.reverse_cons]

set_option maxHeartbeats 1000000 in
theorem rrev_any (l : List UInt8) (w : World) (hl : l.length ≤ 140737488351232) :
    Calls Try.prog 23 #[.string (bs l)] w fun e w' => e = .returned (.string (bs l.reverse)) ∧ Below w.heap.size w w' := by
  obtain ⟨i0, hi, hz0, hz1, hz2⟩ := info_parts info8x
  have hsz := bs_size l
  have HG : Hid (∀ k (h : k < (bs l).size) (h2 : k < l.length), (bs l)[k]'h = l[k]'h2) := fun k h _ => bs_get l k h
  generalize bs l = L at *
  go_enter Try.func23, Try.ntmps23
  go_wp2_with fail
  go_loopg [3, 4] l.length (fun k t3 t4 wr => ∃ (i : Nat) (v : Value), t3 = v ∧ t4 = .int .i64 ((i : Int) - 1) ∧ i ≤ l.length ∧ Hid (k = i ∧ Below w.heap.size w wr ∧ OB wr w.heap.size v (l.drop i).reverse))
  case atStart =>
    refine ⟨l.length, _, rfl, by go_num, Nat.le_refl _, ⟨rfl, ?_, ?_⟩⟩
    · exact (Below.refl _ w).alloc (Nat.le_refl _) _
    · rw [List.drop_length]
      exact ob_empty w
  case round =>
    obtain ⟨i, v, rfl, rfl, hil, HI⟩ := hrel
    obtain ⟨hk, hbl, hob⟩ := HI.out
    obtain ⟨av, cv, rfl⟩ := rowShape hob
    by_cases c : i = 0
    · subst c
      have hcv := hob.conv
      generalize (l.drop 0).reverse.length = m at *
      rw [List.drop_zero] at hcv
      have HB : Hid (Below w.heap.size w wr) := hbl
      obtain ⟨R, hR⟩ : ∃ R, bs l.reverse = R := ⟨_, rfl⟩
      rw [hR] at hcv
      have HR : Hid (bs l.reverse = R) := hR
      clear HI hbl hob hk hR
      go_wp2
      go_ret
      exact ⟨by rw [HR.out]; rfl, HB.out⟩
    · obtain ⟨j, rfl⟩ : ∃ j, i = j + 1 := ⟨i - 1, by omega⟩
      have cL : j < L.size := by omega
      have hg := HG.out j cL (by omega)
      have hB := hbl.size
      have HR : Hid ((l.drop j).reverse = (l.drop (j + 1)).reverse ++ [l[j]]) := rev_next (by omega)
      have hown : (wr.alloc (.cells #[.int .u8 ((l[j]'(by omega)).toNat : Int)] 5)).ownsRow w.heap.size 5 1 (.slice av (l.drop (j + 1)).reverse.length cv) (l.drop (j + 1)).reverse.length (b8 (l.drop (j + 1)).reverse) := World.ownsRow.alloc hob _
      have hn : (l.drop (j + 1)).reverse.length + j + 1 ≤ 140737488351232 := by rw [List.length_reverse, List.length_drop]; omega
      have HN : Hid (∀ (w2 : World) (g cap : Nat), w2.ownsRow w.heap.size 5 1 (.slice (some ⟨g, 0, none⟩) ((l.drop (j + 1)).reverse.length + 1) cap) ((l.drop (j + 1)).reverse.length + 1) (b8 (l.drop (j + 1)).reverse ++ [.int .u8 ((l[j]'(by omega)).toNat : Int)]) → (wr.alloc (.cells #[.int .u8 ((l[j]'(by omega)).toNat : Int)] 5)).grownBy w2 (Value.ownBlock (.slice av (l.drop (j + 1)).reverse.length cv)) →
          Below w.heap.size w w2 ∧ OB w2 w.heap.size (.slice (some ⟨g, 0, none⟩) ((l.drop (j + 1)).reverse.length + 1) cap) (l.drop j).reverse) := by
        intro w2 g cap h1 h2
        obtain ⟨k1, k2⟩ := OB.laid hob _ hB h1 h2
        exact ⟨hbl.trans k2, by rw [HR.out]; exact k1⟩
      generalize (l.drop (j + 1)).reverse.length = m at *
      generalize (l[j]'(by omega)) = cb at *
      generalize b8 (l.drop (j + 1)).reverse = xs at *
      clear HI hbl hob
      go_wp2_with (at_builtin; refine wpList_append_lies _ rfl _ _ 42 rfl w.heap.size 5 i0 (.int .u8 0) 1 1 Try.underlying42 hi hz0 hz1 hz2 rfl (by decide) _ m xs rfl hown ⟨wr.heap.size, 0, none⟩ 1 1 [.int .u8 (cb.toNat : Int)] rfl rfl (cell_newb _ _ _) (by intro u hu; simp at hu; subst hu; rfl) (by decide) (by unfold maxLen; omega) (by omega) (by simp; omega) _ rfl ?_)
      intro g cap w4 hown' hgrow hat _
      have HN3 : Hid _ := HN.out w4 g cap hown' hgrow
      clear hown' hgrow hat hown HN
      go_wp2_with fail
      go_roundg j
      case measure => omega
      case rel => exact ⟨j, _, rfl, by go_num, by omega, ⟨rfl, HN3.out.1, HN3.out.2⟩⟩

set_option maxHeartbeats 1000000 in
theorem rup_any (l : List UInt8) (w : World) (hl : l.length ≤ 140737488351232) :
    Calls Try.prog 21 #[.string (bs l)] w fun e w' => e = .returned (.string (bs (l.map upB))) ∧ Below w.heap.size w w' := by
  obtain ⟨i0, hi, hz0, hz1, hz2⟩ := info_parts info8x
  have hsz := bs_size l
  have HG : Hid (∀ k (h : k < (bs l).size) (h2 : k < l.length), (bs l)[k]'h = l[k]'h2) := fun k h _ => bs_get l k h
  generalize bs l = L at *
  go_enter Try.func21, Try.ntmps21
  go_wp2_with fail
  go_loopg [3, 4, 5] l.length (fun k t3 t4 _ wr => ∃ (i : Nat) (v : Value), t3 = v ∧ t4 = .int .i64 (i : Int) ∧ i ≤ l.length ∧ Hid (k = l.length - i ∧ Below w.heap.size w wr ∧ OB wr w.heap.size v ((l.take i).map upB)))
  case atStart =>
    refine ⟨0, _, rfl, rfl, Nat.zero_le _, ⟨rfl, ?_, ?_⟩⟩
    · exact (Below.refl _ w).alloc (Nat.le_refl _) _
    · exact ob_empty w
  case round =>
    obtain ⟨i, v, rfl, rfl, hil, HI⟩ := hrel
    obtain ⟨hk, hbl, hob⟩ := HI.out
    obtain ⟨av, cv, rfl⟩ := rowShape hob
    by_cases c : i = l.length
    · have hcv := hob.conv
      generalize ((l.take i).map upB).length = m at *
      rw [c, List.take_length] at hcv
      have HB : Hid (Below w.heap.size w wr) := hbl
      obtain ⟨R, hR⟩ : ∃ R, bs (l.map upB) = R := ⟨_, rfl⟩
      rw [hR] at hcv
      have HR : Hid (bs (l.map upB) = R) := hR
      clear HI hbl hob hk hR
      go_wp2
      go_ret
      exact ⟨by rw [HR.out]; rfl, HB.out⟩
    · have cl : i < l.length := by omega
      have cL : i < L.size := by omega
      have hg := HG.out i cL cl
      have hB := hbl.size
      obtain ⟨acc, hacc⟩ : ∃ acc, (l.take i).map upB = acc := ⟨_, rfl⟩
      have HA : Hid ((l.take (i + 1)).map upB = acc ++ [upB l[i]]) := by rw [← hacc]; exact up_next cl
      rw [hacc] at hob
      rw [hacc]
      have hal : acc.length = i := by rw [← hacc, List.length_map, List.length_take]; omega
      clear hacc
      generalize (l[i]'cl) = cc at *
      obtain ⟨cb, hcb⟩ : ∃ cb, upB cc = cb := ⟨_, rfl⟩
      rw [hcb] at HA
      have hown : (wr.alloc (.cells #[.int .u8 (cb.toNat : Int)] 5)).ownsRow w.heap.size 5 1 (.slice av acc.length cv) acc.length (b8 acc) := World.ownsRow.alloc hob _
      have HN : Hid (∀ (w2 : World) (g cap : Nat), w2.ownsRow w.heap.size 5 1 (.slice (some ⟨g, 0, none⟩) (acc.length + 1) cap) (acc.length + 1) (b8 acc ++ [.int .u8 (cb.toNat : Int)]) → (wr.alloc (.cells #[.int .u8 (cb.toNat : Int)] 5)).grownBy w2 (Value.ownBlock (.slice av acc.length cv)) →
          Below w.heap.size w w2 ∧ OB w2 w.heap.size (.slice (some ⟨g, 0, none⟩) (acc.length + 1) cap) (acc ++ [cb])) := by
        intro w2 g cap h1 h2
        obtain ⟨k1, k2⟩ := OB.laid hob _ hB h1 h2
        exact ⟨hbl.trans k2, k1⟩
      have h256 := cc.toNat_lt
      have hn : acc.length ≤ 140737488351231 := by omega
      clear hal
      rw [HA.out.symm] at HN
      generalize acc.length = m at *
      generalize b8 acc = xs at *
      clear HI hbl hob HA
      by_cases c1 : (cc.toNat : Int) ≥ 97
      · by_cases c2 : (cc.toNat : Int) ≤ 122
        · have hup : (cb.toNat : Int) = (cc.toNat : Int) - 32 := by rw [← hcb]; exact upB_yes ⟨by omega, by omega⟩
          rw [hup] at hown HN
          clear hup hcb
          go_wp2_with (at_builtin; refine wpList_append_lies _ rfl _ _ 42 rfl w.heap.size 5 i0 (.int .u8 0) 1 1 Try.underlying42 hi hz0 hz1 hz2 rfl (by decide) _ m xs rfl hown ⟨wr.heap.size, 0, none⟩ 1 1 [.int .u8 ((cc.toNat : Int) - 32)] rfl rfl (cell_newb _ _ _) (by intro u hu; simp at hu; subst hu; rfl) (by decide) (by unfold maxLen; omega) (by omega) (by simp; omega) _ rfl ?_)
          intro g cap w4 hown' hgrow hat _
          have HN3 : Hid _ := HN.out w4 g cap hown' hgrow
          clear hown' hgrow hat hown HN
          go_wp2_with fail
          go_roundg (l.length - (i + 1))
          case measure => omega
          case rel => exact ⟨i + 1, _, rfl, by go_num, by omega, ⟨rfl, HN3.out.1, HN3.out.2⟩⟩
        · have hup : cb = cc := by rw [← hcb]; exact upB_no (by omega)
          rw [hup] at hown HN
          clear hup hcb
          go_wp2_with (at_builtin; refine wpList_append_lies _ rfl _ _ 42 rfl w.heap.size 5 i0 (.int .u8 0) 1 1 Try.underlying42 hi hz0 hz1 hz2 rfl (by decide) _ m xs rfl hown ⟨wr.heap.size, 0, none⟩ 1 1 [.int .u8 (cc.toNat : Int)] rfl rfl (cell_newb _ _ _) (by intro u hu; simp at hu; subst hu; rfl) (by decide) (by unfold maxLen; omega) (by omega) (by simp; omega) _ rfl ?_)
          intro g cap w4 hown' hgrow hat _
          have HN3 : Hid _ := HN.out w4 g cap hown' hgrow
          clear hown' hgrow hat hown HN
          go_wp2_with fail
          go_roundg (l.length - (i + 1))
          case measure => omega
          case rel => exact ⟨i + 1, _, rfl, by go_num, by omega, ⟨rfl, HN3.out.1, HN3.out.2⟩⟩
      · have hup : cb = cc := by rw [← hcb]; exact upB_no (by omega)
        rw [hup] at hown HN
        clear hup hcb
        go_wp2_with (at_builtin; refine wpList_append_lies _ rfl _ _ 42 rfl w.heap.size 5 i0 (.int .u8 0) 1 1 Try.underlying42 hi hz0 hz1 hz2 rfl (by decide) _ m xs rfl hown ⟨wr.heap.size, 0, none⟩ 1 1 [.int .u8 (cc.toNat : Int)] rfl rfl (cell_newb _ _ _) (by intro u hu; simp at hu; subst hu; rfl) (by decide) (by unfold maxLen; omega) (by omega) (by simp; omega) _ rfl ?_)
        intro g cap w4 hown' hgrow hat _
        have HN3 : Hid _ := HN.out w4 g cap hown' hgrow
        clear hown' hgrow hat hown HN
        go_wp2_with fail
        go_roundg (l.length - (i + 1))
        case measure => omega
        case rel => exact ⟨i + 1, _, rfl, by go_num, by omega, ⟨rfl, HN3.out.1, HN3.out.2⟩⟩

end Go.Proofs.Ytflbolbhdiloeaa
