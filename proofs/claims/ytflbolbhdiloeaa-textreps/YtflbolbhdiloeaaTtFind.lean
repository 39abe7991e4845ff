/-
  Layer 15: Find, of the landed code and of the reference, walked; what the laws call 'lives'.
-/
import Derived.Test.YtflbolbhdiloeaaTtSub
namespace Go.Proofs.Ytflbolbhdiloeaa
set_option maxRecDepth 100000
open Go.RowKit Txt Tt

/-- The library's variable holds some number. -/
def Mx (w : World) : Prop := ∃ m, w.cell? ⟨0, 0, none⟩ = some (.int .i64 m)
theorem Mx.below {w w' : World} {B : Nat} (h : Mx w) (hb : Below B w w') (hB : 0 < B) : Mx w' := by
  obtain ⟨m, hm⟩ := h
  exact ⟨m, (World.cell?_of_block (w := w) (a := ⟨0, 0, none⟩) (hb.block 0 hB)).trans hm⟩
theorem Mx.pos {w : World} (h : Mx w) : 0 < w.heap.size := by
  obtain ⟨m, hm⟩ := h
  exact World.block_lt_of_cell? w _ hm
theorem index_any (l t : List UInt8) (w : World) (hl : l.length ≤ 4000) (h : Mx w) : Calls Try.prog 31 #[.string (bs l), .string (bs t)] w fun e w' => e = .returned (.int .i64 (Lib.index l t)) ∧ w' = w := by
  obtain ⟨m, hm⟩ := h
  have := Try.strings_Index (bs l) (bs t) m w (by rw [bs_size]; omega) hm
  rw [bs_list, bs_list] at this
  exact this
theorem index_le (l t : List UInt8) : Lib.index l t ≤ l.length := by
  by_cases c : 0 ≤ Lib.index l t
  · obtain ⟨i, e, h, _⟩ := idx_occ _ _ c
    omega
  · omega

set_option maxHeartbeats 1000000 in
theorem find_any (l t : List UInt8) (f : Int) (w : World) (hl : l.length ≤ 4000) (h0 : -9223372036854775808 ≤ f) (h1 : f ≤ 9223372036854775807) (hm : Mx w) :
    Calls Try.prog 14 #[.string (bs l), .string (bs t), .int .i64 f] w fun e w' => e = .returned (.tuple #[.int .i64 (fndZ l t f), .bool (fndB l t f)]) ∧ w' = w := by
  have hp := fun w => place_any l f w (by omega) h0 h1
  have hpg := plc_ge l.length f
  have hpl := plc_le (n := l.length) (i := f) (by omega) h1
  have hsz := bs_size l
  have HB : Hid (fndB l t f = decide (max (plc l.length f) 1 ≤ (l.length : Int) + 1 ∧ 0 ≤ fndI l t f)) := rfl
  have HZ : Hid (fndZ l t f = if max (plc l.length f) 1 ≤ (l.length : Int) + 1 ∧ 0 ≤ fndI l t f then max (plc l.length f) 1 + fndI l t f else 0) := rfl
  have HI : Hid (fndI l t f = Lib.index (l.drop (max (plc l.length f) 1 - 1).toNat) t) := rfl
  generalize fndB l t f = B at *
  generalize fndZ l t f = Z at *
  generalize fndI l t f = I at *
  generalize plc l.length f = p at *
  obtain ⟨a, ha⟩ : ∃ a, max p 1 = a := ⟨_, rfl⟩
  rw [ha] at HB HZ HI
  have ha1 : 1 ≤ a := by omega
  have ha2 : a ≤ 9223372036854775807 := by omega
  by_cases c : a > (l.length : Int) + 1
  · have hb := HB.out
    have hz := HZ.out
    rw [if_neg (by omega)] at hz
    rw [decide_eq_false (by omega)] at hb
    subst hb hz
    generalize bs l = L at *
    generalize bs t = T at *
    go_enter Try.func14, Try.ntmps14
    go_wp2_with fail
    refine (hp _).mono ?_
    rintro e w' ⟨rfl, rfl⟩
    go_wp2
    go_ret2
    exact ⟨rfl, rfl⟩
  · obtain ⟨na, hna⟩ : ∃ na : Nat, a - 1 = na := ⟨(a - 1).toNat, by omega⟩
    have hx : (bs l).extract na l.length = bs (l.drop na) := by
      rw [bs_extract, List.take_of_length_le (by rw [List.length_drop]; omega)]
    rw [show (a - 1).toNat = na by omega] at HI
    have hix := index_any (l.drop na) t w (by rw [List.length_drop]; omega) hm
    have hg := Lib.index_ge (l.drop na) t
    have hle := index_le (l.drop na) t
    rw [List.length_drop] at hle
    rw [← HI.out] at hix hg hle
    have hle2 : I ≤ 4000 := by omega
    have hal : na ≤ l.length := by omega
    clear HI hle
    generalize bs (l.drop na) = R at *
    generalize bs l = L at *
    generalize bs t = T at *
    generalize l.length = n at *
    by_cases c2 : I < 0
    · have hb := HB.out
      have hz := HZ.out
      rw [if_neg (by omega)] at hz
      rw [decide_eq_false (by omega)] at hb
      subst hb hz
      clear HB HZ
      go_enter Try.func14, Try.ntmps14
      go_wp2_with fail
      refine (hp _).mono ?_
      rintro e w' ⟨rfl, rfl⟩
      go_wp2_with fail
      refine hix.mono ?_
      rintro e w'' ⟨rfl, rfl⟩
      go_wp2
      go_ret2
      exact ⟨rfl, rfl⟩
    · have hb := HB.out
      have hz := HZ.out
      rw [if_pos (by omega)] at hz
      rw [decide_eq_true (by omega)] at hb
      subst hb hz
      clear HB HZ
      go_enter Try.func14, Try.ntmps14
      go_wp2_with fail
      refine (hp _).mono ?_
      rintro e w' ⟨rfl, rfl⟩
      go_wp2_with fail
      refine hix.mono ?_
      rintro e w'' ⟨rfl, rfl⟩
      go_wp2
      go_ret2
      exact ⟨rfl, rfl⟩

set_option maxHeartbeats 1000000 in
theorem rfind_any (l t : List UInt8) (f : Int) (w : World) (hl : l.length ≤ 140737488351232) (ht : t.length ≤ 140737488351232) (h0 : -9223372036854775808 ≤ f) (h1 : f ≤ 9223372036854775807) :
    Calls Try.prog 15 #[.string (bs l), .string (bs t), .int .i64 f] w fun e w' => e = .returned (.tuple #[.int .i64 (fndZ l t f), .bool (fndB l t f)]) ∧ w' = w := by
  have hp := fun w => at_any f 1 l.length w hl h0 h1
  rw [at_one] at hp
  have hpl := plc_le (i := f) hl h1
  have hsz := bs_size l
  have htz := bs_size t
  have HY : Hid (∀ o : Nat, max (plc l.length f) 1 - 1 ≤ o → o + t.length ≤ l.length → Lib.occAt l t o = true → (∀ j : Nat, max (plc l.length f) 1 - 1 ≤ j → j < o → Lib.occAt l t j = false) → fndB l t f = true ∧ fndZ l t f = (o : Int) + 1) := fun _ a b c d => fnd_yes a b c d
  have HF : Hid ((∀ j : Nat, max (plc l.length f) 1 - 1 ≤ j → j ≤ l.length → Lib.occAt l t j = false) → fndB l t f = false ∧ fndZ l t f = 0) := fnd_no
  have HX : Hid (∀ o : Nat, o + t.length ≤ l.length → (((bs l).extract o (o + t.length)).toList == (bs t).toList) = Lib.occAt l t o) := fun o h => by
    rw [bs_extract, bs_toList, bs_toList, Lib.occAt_iff_take _ _ _ h, show o + t.length - o = t.length by omega]
  obtain ⟨a, ha⟩ : ∃ a, max (plc l.length f) 1 = a := ⟨_, rfl⟩
  rw [ha] at HY HF hp
  have ha1 : 1 ≤ a := by omega
  have ha2 : a ≤ 9223372036854775807 := by omega
  clear ha hpl
  generalize fndB l t f = B at *
  generalize fndZ l t f = Z at *
  have HO : Hid (∀ x : Int, (l.length : Int) + 1 - t.length < x → (∀ j : Nat, a - 1 ≤ j → (j : Int) < x - 1 → Lib.occAt l t j = false) → ∀ j : Nat, a - 1 ≤ j → j ≤ l.length → Lib.occAt l t j = false) := fun x h1 h2 => occ_end h1 h2
  generalize Lib.occAt l t = occ at *
  generalize bs l = L at *
  generalize bs t = T at *
  generalize l.length = n at *
  generalize t.length = m at *
  go_enter Try.func15, Try.ntmps15
  go_wp2_with fail
  refine (hp _).mono ?_
  rintro e w' ⟨rfl, rfl⟩
  go_wp2_with fail
  go_loopg [10] ((n : Int) + 2 - a).toNat (fun k t10 wr => ∃ x : Int, t10 = .int .i64 x ∧ a ≤ x ∧ x ≤ 9223372036854775807 ∧ wr = w' ∧ Hid (k = ((n : Int) + 2 - x).toNat ∧ ∀ j : Nat, a - 1 ≤ j → (j : Int) < x - 1 → occ j = false))
  case atStart => exact ⟨a, rfl, Int.le_refl _, ha2, rfl, ⟨rfl, fun j h1 h2 => by omega⟩⟩
  case round =>
    obtain ⟨x, rfl, hax, hx2, rfl, HI⟩ := hrel
    obtain ⟨hk, hno⟩ := HI.out
    by_cases c : x ≤ (n : Int) + 1 - m
    · obtain ⟨o, rfl⟩ : ∃ o : Nat, x = o + 1 := ⟨(x - 1).toNat, by omega⟩
      have hroom : o + m ≤ n := by omega
      have hcmp := HX.out o hroom
      have hom : ((o : Int) + m).toNat = o + m := by omega
      cases cc : occ o with
      | true =>
        obtain ⟨hb, hz⟩ := HY.out o (by omega) hroom cc (fun j h1 h2 => hno j h1 (by omega))
        rw [cc] at hcmp
        subst hb hz
        clear HI hno HX HO HY HF
        go_wp2
        go_ret2
        exact ⟨rfl, rfl⟩
      | false =>
        rw [cc] at hcmp
        have HN : Hid (∀ j : Nat, a - 1 ≤ j → (j : Int) < (o : Int) + 1 + 1 - 1 → occ j = false) := fun j h1 h2 => by
          by_cases e : j = o
          · subst e; exact cc
          · exact hno j h1 (by omega)
        clear HI hno
        go_wp2_with fail
        go_roundg (((n : Int) + 2 - (o + 1 + 1)).toNat)
        case measure => omega
        case rel => exact ⟨(o : Int) + 1 + 1, rfl, by omega, by omega, rfl, ⟨rfl, HN.out⟩⟩
    · obtain ⟨hb, hz⟩ := HF.out (HO.out x (by omega) hno)
      subst hb hz
      clear HI hno HX HO HY HF
      go_wp2
      go_ret2
      exact ⟨rfl, rfl⟩

end Go.Proofs.Ytflbolbhdiloeaa
