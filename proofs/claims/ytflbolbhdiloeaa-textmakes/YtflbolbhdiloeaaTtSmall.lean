/-
  Layer 15: places and single bytes, of the landed code and of the reference, walked.
-/
import Derived.Test.YtflbolbhdiloeaaTtMem
namespace Go.Proofs.Ytflbolbhdiloeaa
set_option maxRecDepth 100000
open Go.RowKit Txt Tt

set_option maxHeartbeats 1000000 in
theorem place_any (l : List UInt8) (i : Int) (w : World) (hl : l.length ≤ 140737488351232) (h0 : -9223372036854775808 ≤ i) (h1 : i ≤ 9223372036854775807) :
    Calls Try.prog 28 #[.string (bs l), .int .i64 i] w fun e w' => e = .returned (.int .i64 (plc l.length i)) ∧ w' = w := by
  have hsz := bs_size l
  have HP : Hid (plc l.length i = if 0 ≤ i then i else max (i + l.length + 1) 0) := rfl
  generalize plc l.length i = p at *
  generalize bs l = L at *
  generalize l.length = n at *
  by_cases c : i ≥ 0
  · have hp := HP.out
    rw [if_pos c] at hp
    subst hp
    go_enter Try.func28, Try.ntmps28
    go_wp2
    go_ret
    exact ⟨rfl, rfl⟩
  · have hp := HP.out
    rw [if_neg c] at hp
    have hq : p = if i + n + 1 < 0 then 0 else i + n + 1 := by rw [hp]; split <;> omega
    clear hp HP
    by_cases c2 : i + (n : Int) + 1 < 0
    · rw [if_pos c2] at hq
      subst hq
      go_enter Try.func28, Try.ntmps28
      go_wp2
      go_ret
      exact ⟨rfl, rfl⟩
    · rw [if_neg c2] at hq
      subst hq
      go_enter Try.func28, Try.ntmps28
      go_wp2
      go_ret
      exact ⟨rfl, rfl⟩

set_option maxHeartbeats 1000000 in
theorem at_any (i low : Int) (n : Nat) (w : World) (hl : n ≤ 140737488351232) (h0 : -9223372036854775808 ≤ i) (h1 : i ≤ 9223372036854775807) :
    Calls Try.prog 29 #[.int .i64 i, .int .i64 n, .int .i64 low] w fun e w' => e = .returned (.int .i64 (atZ i n low)) ∧ w' = w := by
  have HP : Hid (atZ i n low = if (if i < 0 ∧ -(n : Int) ≤ i then (n : Int) + 1 + i else i) < low then low else (if i < 0 ∧ -(n : Int) ≤ i then (n : Int) + 1 + i else i)) := rfl
  generalize atZ i n low = p at *
  by_cases c : i < 0
  · by_cases c2 : i ≥ -(n : Int)
    · have hp := HP.out
      rw [if_pos (⟨c, c2⟩ : i < 0 ∧ -(n : Int) ≤ i)] at hp
      clear HP
      by_cases c3 : (n : Int) + 1 + i < low
      · rw [if_pos c3] at hp
        subst hp
        go_enter Try.func29, Try.ntmps29
        go_wp2
        go_ret
        exact ⟨rfl, rfl⟩
      · rw [if_neg c3] at hp
        subst hp
        go_enter Try.func29, Try.ntmps29
        go_wp2
        go_ret
        exact ⟨rfl, rfl⟩
    · have hp := HP.out
      rw [if_neg (show ¬ (i < 0 ∧ -(n : Int) ≤ i) from fun h => c2 h.2)] at hp
      clear HP
      by_cases c3 : i < low
      · rw [if_pos c3] at hp
        subst hp
        go_enter Try.func29, Try.ntmps29
        go_wp2
        go_ret
        exact ⟨rfl, rfl⟩
      · rw [if_neg c3] at hp
        subst hp
        go_enter Try.func29, Try.ntmps29
        go_wp2
        go_ret
        exact ⟨rfl, rfl⟩
  · have hp := HP.out
    rw [if_neg (show ¬ (i < 0 ∧ -(n : Int) ≤ i) from fun h => c h.1)] at hp
    clear HP
    by_cases c3 : i < low
    · rw [if_pos c3] at hp
      subst hp
      go_enter Try.func29, Try.ntmps29
      go_wp2
      go_ret
      exact ⟨rfl, rfl⟩
    · rw [if_neg c3] at hp
      subst hp
      go_enter Try.func29, Try.ntmps29
      go_wp2
      go_ret
      exact ⟨rfl, rfl⟩

theorem byte_at (l : List UInt8) (p : Int) (h1 : 1 ≤ p) (h2 : p ≤ l.length) (h : p.toNat - 1 < (bs l).size) : (bs l)[p.toNat - 1]'h = l.getD (p - 1).toNat 0 := by
  rw [bs_get, List.getD_eq_getElem?_getD, List.getElem?_eq_getElem (by omega)]
  show _ = l[(p - 1).toNat]
  congr 1
  omega
theorem wrap_byte (c : UInt8) : wrap64 (c.toNat : Int) = c.toNat := by
  have := c.toNat_lt
  unfold wrap64
  omega

set_option maxHeartbeats 1000000 in
theorem byte_any (l : List UInt8) (i : Int) (w : World) (hl : l.length ≤ 140737488351232) (h0 : -9223372036854775808 ≤ i) (h1 : i ≤ 9223372036854775807) :
    Calls Try.prog 9 #[.string (bs l), .int .i64 i] w fun e w' => e = .returned (.tuple #[.int .i64 (bytZ l i), .bool (bytB l i)]) ∧ w' = w := by
  have hpl := place_any l i w hl h0 h1
  have hsz := bs_size l
  have hg := plc_ge l.length i
  have hg2 := plc_le (i := i) hl h1
  have HZ : Hid (bytZ l i = if 1 ≤ plc l.length i ∧ plc l.length i ≤ l.length then ((l.getD (plc l.length i - 1).toNat 0).toNat : Int) else 0) := rfl
  have HB : Hid (bytB l i = decide (1 ≤ plc l.length i ∧ plc l.length i ≤ l.length)) := rfl
  have HG : Hid (∀ p : Int, 1 ≤ p → p ≤ l.length → ∀ h : p.toNat - 1 < (bs l).size, (bs l)[p.toNat - 1]'h = l.getD (p - 1).toNat 0) := byte_at l
  generalize bytZ l i = Z at *
  generalize bytB l i = B at *
  generalize plc l.length i = p at *
  generalize bs l = L at *
  by_cases c1 : p < 1
  · have hz := HZ.out
    have hb := HB.out
    rw [if_neg (by omega)] at hz
    rw [decide_eq_false (by omega)] at hb
    subst hz hb
    go_enter Try.func9, Try.ntmps9
    go_wp2_with fail
    refine hpl.mono ?_
    rintro e w' ⟨rfl, rfl⟩
    go_wp2
    go_ret2
    exact ⟨rfl, rfl⟩
  · by_cases c2 : p > (l.length : Int)
    · have hz := HZ.out
      have hb := HB.out
      rw [if_neg (by omega)] at hz
      rw [decide_eq_false (by omega)] at hb
      subst hz hb
      go_enter Try.func9, Try.ntmps9
      go_wp2_with fail
      refine hpl.mono ?_
      rintro e w' ⟨rfl, rfl⟩
      go_wp2
      go_ret2
      exact ⟨rfl, rfl⟩
    · have hz := HZ.out
      have hb := HB.out
      have hp : p.toNat - 1 < L.size := by omega
      have hgt := HG.out p (by omega) (by omega) hp
      rw [if_pos (by omega)] at hz
      rw [decide_eq_true (by omega)] at hb
      subst hz hb
      clear HZ HB HG
      have hwb := wrap_byte (l.getD (p - 1).toNat 0)
      generalize l.getD (p - 1).toNat 0 = cb at *
      go_enter Try.func9, Try.ntmps9
      go_wp2_with fail
      refine hpl.mono ?_
      rintro e w' ⟨rfl, rfl⟩
      go_wp2
      go_ret2
      refine ⟨?_, rfl⟩
      rw [hwb]
      rfl

set_option maxHeartbeats 1000000 in
theorem rbyte_any (l : List UInt8) (i : Int) (w : World) (hl : l.length ≤ 140737488351232) (h0 : -9223372036854775808 ≤ i) (h1 : i ≤ 9223372036854775807) :
    Calls Try.prog 10 #[.string (bs l), .int .i64 i] w fun e w' => e = .returned (.tuple #[.int .i64 (bytZ l i), .bool (bytB l i)]) ∧ w' = w := by
  have hpl := at_any i 0 l.length w hl h0 h1
  rw [at_zero] at hpl
  have hsz := bs_size l
  have hg := plc_ge l.length i
  have hg2 := plc_le (i := i) hl h1
  have HZ : Hid (bytZ l i = if 1 ≤ plc l.length i ∧ plc l.length i ≤ l.length then ((l.getD (plc l.length i - 1).toNat 0).toNat : Int) else 0) := rfl
  have HB : Hid (bytB l i = decide (1 ≤ plc l.length i ∧ plc l.length i ≤ l.length)) := rfl
  have HG : Hid (∀ p : Int, 1 ≤ p → p ≤ l.length → ∀ h : p.toNat - 1 < (bs l).size, (bs l)[p.toNat - 1]'h = l.getD (p - 1).toNat 0) := byte_at l
  generalize bytZ l i = Z at *
  generalize bytB l i = B at *
  generalize plc l.length i = p at *
  generalize bs l = L at *
  by_cases c1 : p < 1
  · have hz := HZ.out
    have hb := HB.out
    rw [if_neg (by omega)] at hz
    rw [decide_eq_false (by omega)] at hb
    subst hz hb
    go_enter Try.func10, Try.ntmps10
    go_wp2_with fail
    refine hpl.mono ?_
    rintro e w' ⟨rfl, rfl⟩
    go_wp2
    go_ret2
    exact ⟨rfl, rfl⟩
  · by_cases c2 : p > (l.length : Int)
    · have hz := HZ.out
      have hb := HB.out
      rw [if_neg (by omega)] at hz
      rw [decide_eq_false (by omega)] at hb
      subst hz hb
      go_enter Try.func10, Try.ntmps10
      go_wp2_with fail
      refine hpl.mono ?_
      rintro e w' ⟨rfl, rfl⟩
      go_wp2
      go_ret2
      exact ⟨rfl, rfl⟩
    · have hz := HZ.out
      have hb := HB.out
      have hp : p.toNat - 1 < L.size := by omega
      have hgt := HG.out p (by omega) (by omega) hp
      rw [if_pos (by omega)] at hz
      rw [decide_eq_true (by omega)] at hb
      subst hz hb
      clear HZ HB HG
      have hwb := wrap_byte (l.getD (p - 1).toNat 0)
      generalize l.getD (p - 1).toNat 0 = cb at *
      go_enter Try.func10, Try.ntmps10
      go_wp2_with fail
      refine hpl.mono ?_
      rintro e w' ⟨rfl, rfl⟩
      go_wp2
      go_ret2
      refine ⟨?_, rfl⟩
      rw [hwb]
      rfl

end Go.Proofs.Ytflbolbhdiloeaa
