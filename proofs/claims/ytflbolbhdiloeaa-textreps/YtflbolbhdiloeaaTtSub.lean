/-
  Layer 15: Sub, of the landed code and of the reference, walked.
-/
import Derived.Test.YtflbolbhdiloeaaTtRev
import Derived.Test.YtflbolbhdiloeaaShelf
namespace Go.Proofs.Ytflbolbhdiloeaa
set_option maxRecDepth 100000
open Go.RowKit Txt Tt

set_option maxHeartbeats 1000000 in
theorem clone_any (s : ByteArray) (w : World) (h : s.size ≤ 140737488351232) : Calls Try.prog 30 #[.string s] w fun e w' => e = .returned (.string s) ∧ Below w.heap.size w w' := by
  have hc := Try.stringslite_Clone s w (by omega)
  go_enter Try.func30, Try.ntmps30
  go_wp2_with fail
  refine hc.mono ?_
  rintro e w' ⟨rfl, hb⟩
  go_wp2
  go_ret
  exact ⟨rfl, hb⟩

theorem cut_extract (l : List UInt8) (a b : Int) (h1 : 1 ≤ a) (h : a ≤ b) : (bs l).extract (a - 1).toNat b.toNat = bs (cutL l a b) := by
  rw [bs_extract]
  unfold cutL
  rw [if_neg (by omega)]
  congr 2
  omega

set_option maxHeartbeats 1000000 in
theorem sub_any (l : List UInt8) (i j : Int) (w : World) (hl : l.length ≤ 140737488351232) (hi0 : -9223372036854775808 ≤ i) (hi1 : i ≤ 9223372036854775807) (hj0 : -9223372036854775808 ≤ j) (hj1 : j ≤ 9223372036854775807) :
    Calls Try.prog 11 #[.string (bs l), .int .i64 i, .int .i64 j] w fun e w' => e = .returned (.string (bs (subL l i j))) ∧ Below w.heap.size w w' := by
  have hp := fun w => place_any l i w hl hi0 hi1
  have hq := fun w => place_any l j w hl hj0 hj1
  have hpg := plc_ge l.length i
  have hqg := plc_ge l.length j
  have hpl := plc_le (i := i) hl hi1
  have hql := plc_le (i := j) hl hj1
  have hsz := bs_size l
  have HS : Hid (subL l i j = cutL l (max (plc l.length i) 1) (min (plc l.length j) l.length)) := rfl
  generalize plc l.length i = p at *
  generalize plc l.length j = q at *
  have HX : Hid (∀ a b : Int, 1 ≤ a → a ≤ b → (bs l).extract (a - 1).toNat b.toNat = bs (cutL l a b)) := fun a b h1 h2 => cut_extract l a b h1 h2
  obtain ⟨a, ha⟩ : ∃ a, max p 1 = a := ⟨_, rfl⟩
  obtain ⟨b, hb⟩ : ∃ b, min q (l.length : Int) = b := ⟨_, rfl⟩
  rw [ha, hb] at HS
  rw [HS.out]
  generalize hL : bs l = L at *
  by_cases c : a > b
  · rw [cut_none (by omega)]
    go_enter Try.func11, Try.ntmps11
    go_wp2_with fail
    refine (hp _).mono ?_
    rintro e w' ⟨rfl, rfl⟩
    go_wp2_with fail
    refine (hq _).mono ?_
    rintro e w'' ⟨rfl, rfl⟩
    go_wp2
    go_ret
    exact ⟨rfl, Below.refl _ _⟩
  · have hx := HX.out a b (by omega) (by omega)
    have hs : (L.extract (a - 1).toNat b.toNat).size ≤ 140737488351232 := by rw [ByteArray.size_extract]; omega
    have hcl := fun w => clone_any _ w hs
    rw [hx] at hcl
    have hab1 : 1 ≤ a := by omega
    have hab2 : b ≤ l.length := by omega
    clear hs HX HS
    generalize bs (cutL l a b) = R at *
    obtain ⟨na, rfl⟩ : ∃ na : Nat, a = na + 1 := ⟨(a - 1).toNat, by omega⟩
    obtain ⟨nb, rfl⟩ : ∃ nb : Nat, b = nb := ⟨b.toNat, by omega⟩
    rw [show ((na : Int) + 1 - 1).toNat = na by omega, show ((nb : Int)).toNat = nb by omega] at hx
    go_enter Try.func11, Try.ntmps11
    go_wp2_with fail
    refine (hp _).mono ?_
    rintro e w' ⟨rfl, rfl⟩
    go_wp2_with fail
    refine (hq _).mono ?_
    rintro e w'' ⟨rfl, rfl⟩
    go_wp2_with fail
    refine (hcl _).mono ?_
    rintro e w3 ⟨rfl, hbl⟩
    go_wp2
    go_ret
    exact ⟨rfl, hbl⟩

set_option maxHeartbeats 1000000 in
theorem rsub_any (l : List UInt8) (i j : Int) (w : World) (hl : l.length ≤ 140737488351232) (hi0 : -9223372036854775808 ≤ i) (hi1 : i ≤ 9223372036854775807) (hj0 : -9223372036854775808 ≤ j) (hj1 : j ≤ 9223372036854775807) :
    Calls Try.prog 12 #[.string (bs l), .int .i64 i, .int .i64 j] w fun e w' => e = .returned (.string (bs (subL l i j))) ∧ Below w.heap.size w w' := by
  obtain ⟨i0, hi, hz0, hz1, hz2⟩ := info_parts info8x
  have hp := fun w => at_any i 1 l.length w hl hi0 hi1
  have hq := fun w => at_any j 0 l.length w hl hj0 hj1
  have HS : Hid (subL l i j = cutL l (max (plc l.length i) 1) (min (plc l.length j) l.length)) := rfl
  rw [at_zero] at hq
  rw [at_one] at hp
  have hpg := plc_ge l.length i
  have hqg := plc_ge l.length j
  have hpl := plc_le (i := i) hl hi1
  have hql := plc_le (i := j) hl hj1
  have hsz := bs_size l
  generalize plc l.length i = p at *
  generalize plc l.length j = q at *
  obtain ⟨a, ha⟩ : ∃ a, max p 1 = a := ⟨_, rfl⟩
  rw [ha] at HS hp
  have ha1 : 1 ≤ a := by omega
  have ha2 : a ≤ 9223372036854775807 := by omega
  clear ha hpg hpl
  have HG : Hid (∀ p : Int, 1 ≤ p → p ≤ l.length → ∀ h : p.toNat - 1 < (bs l).size, (bs l)[p.toNat - 1]'h = l.getD (p - 1).toNat 0) := byte_at l
  generalize hL : bs l = L at *
  rw [HS.out]
  go_enter Try.func12, Try.ntmps12
  go_wp2_with fail
  refine (hp _).mono ?_
  rintro e w' ⟨rfl, rfl⟩
  go_wp2_with fail
  refine (hq _).mono ?_
  rintro e w'' ⟨rfl, rfl⟩
  go_wp2_with fail
  go_loopg [8, 11] (l.length + 1 - a).toNat (fun k t8 t11 wr => ∃ (x : Int) (v : Value), t8 = v ∧ t11 = .int .i64 x ∧ a ≤ x ∧ x ≤ 9223372036854775807 ∧ Hid (k = (l.length + 1 - x).toNat ∧ (x = a ∨ x - 1 ≤ min q l.length) ∧ Below w.heap.size w wr ∧ OB wr w.heap.size v (cutL l a (x - 1))))
  case atStart =>
    refine ⟨a, _, rfl, rfl, Int.le_refl _, by omega, ⟨rfl, .inl rfl, ?_, ?_⟩⟩
    · exact (Below.refl _ w).alloc (Nat.le_refl _) _
    · rw [cut_none (by omega)]; exact ob_empty w
  case round =>
    obtain ⟨x, v, rfl, rfl, hax, hx2, HI⟩ := hrel
    obtain ⟨hk, hor, hbl, hob⟩ := HI.out
    obtain ⟨av, cv, rfl⟩ := rowShape hob
    by_cases c : x ≤ q ∧ x ≤ (l.length : Int)
    · obtain ⟨c1, c2⟩ := c
      have cL : x.toNat - 1 < L.size := by omega
      have hg := HG.out x (by omega) c2 cL
      have hB := hbl.size
      have HA : Hid (cutL l a (x + 1 - 1) = cutL l a (x - 1) ++ [l.getD (x - 1).toNat 0]) := by
        rw [show x + 1 - 1 = x by omega]
        exact cut_next ha1 hax c2
      have hn : (cutL l a (x - 1)).length ≤ 140737488351231 := by
        have := cut_len (l := l) (a := a) (b := x - 1) ha1 (by omega) (by omega)
        omega
      generalize cutL l a (x - 1) = acc at *
      generalize l.getD (x - 1).toNat 0 = cb at *
      have hown : (wr.alloc (.cells #[.int .u8 (cb.toNat : Int)] 5)).ownsRow w.heap.size 5 1 (.slice av acc.length cv) acc.length (b8 acc) := World.ownsRow.alloc hob _
      have HN : Hid (∀ (w2 : World) (g cap : Nat), w2.ownsRow w.heap.size 5 1 (.slice (some ⟨g, 0, none⟩) (acc.length + 1) cap) (acc.length + 1) (b8 acc ++ [.int .u8 (cb.toNat : Int)]) → (wr.alloc (.cells #[.int .u8 (cb.toNat : Int)] 5)).grownBy w2 (Value.ownBlock (.slice av acc.length cv)) →
          Below w.heap.size w w2 ∧ OB w2 w.heap.size (.slice (some ⟨g, 0, none⟩) (acc.length + 1) cap) (acc ++ [cb])) := by
        intro w2 g cap h1 h2
        obtain ⟨k1, k2⟩ := OB.laid hob _ hB h1 h2
        exact ⟨hbl.trans k2, k1⟩
      rw [HA.out.symm] at HN
      generalize acc.length = m at *
      generalize b8 acc = xs at *
      clear HI hbl hob HA hor HS hL
      go_wp2_with (at_builtin; refine wpList_append_lies _ rfl _ _ 42 rfl w.heap.size 5 i0 (.int .u8 0) 1 1 Try.underlying42 hi hz0 hz1 hz2 rfl (by decide) _ m xs rfl hown ⟨wr.heap.size, 0, none⟩ 1 1 [.int .u8 (cb.toNat : Int)] rfl rfl (cell_newb _ _ _) (by intro u hu; simp at hu; subst hu; rfl) (by decide) (by unfold maxLen; omega) (by omega) (by simp; omega) _ rfl ?_)
      intro g cap w4 hown' hgrow hat _
      have HN3 : Hid _ := HN.out w4 g cap hown' hgrow
      clear hown' hgrow hat hown HN
      go_wp2_with fail
      go_roundg ((l.length + 1 - (x + 1)).toNat)
      case measure => omega
      case rel => exact ⟨x + 1, _, rfl, rfl, by omega, by omega, ⟨rfl, .inr (by omega), HN3.out.1, HN3.out.2⟩⟩
    · have hcv := hob.conv
      have hR : cutL l a (min q l.length) = cutL l a (x - 1) := by
        rcases hor with h | h
        · rw [cut_none (by omega), cut_none (by omega)]
        · rw [show min q (l.length : Int) = x - 1 by omega]
      have HR : Hid (bs (cutL l a (min q l.length)) = bs (cutL l a (x - 1))) := congrArg bs hR
      clear hR
      have HB : Hid (Below w.heap.size w wr) := hbl
      generalize (cutL l a (x - 1)).length = m at *
      generalize bs (cutL l a (x - 1)) = R at *
      clear HI hbl hob hk HS hor hL
      by_cases c1 : x ≤ q
      · have c2 : ¬ x ≤ (l.length : Int) := fun h => c ⟨c1, h⟩
        clear c
        go_wp2
        go_ret
        exact ⟨by rw [HR.out]; rfl, HB.out⟩
      · clear c
        go_wp2
        go_ret
        exact ⟨by rw [HR.out]; rfl, HB.out⟩

end Go.Proofs.Ytflbolbhdiloeaa
