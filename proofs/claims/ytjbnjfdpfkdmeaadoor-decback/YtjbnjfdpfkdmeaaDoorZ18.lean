/-
  Ps3, DcClose, PsClose, Ps4, DecParse, RfRead
-/
import Derived.Lib.AppendIntMem
import Derived.Deep.QuietTactic
import Derived.BigQuiet
import Derived.Test.YtjbnjfdpfkdmeaaDoorCards
import Derived.Test.YtjbnjfdpfkdmeaaDoorTie
import Derived.SizedLaws
import Derived.Carry
import Derived.ShutString
import Derived.OpenShut
import Derived.Deep.DeepHandedRow
import Derived.Lib.LaidTab
import Derived.LaidMore
import Derived.Stop.LaidErr
import Derived.Test.YtjbnjfdpfkdmeaaDoorZ17

/-
  The landed laidOut, walked for any digits and place.
-/
namespace Go.Proofs.YtjbnjfdpfkdmeaaDoor
set_option maxRecDepth 100000
open Go.RowKit Pt Txt

/-- Digits with a dot behind so many of them, unless nothing is behind it. -/
def dotT (D : List UInt8) (k : Nat) : List UInt8 := if D.length = k then D else D.take k ++ 46 :: D.drop k
/-- Digits of which the first stands for 10 to the power e, as they are written. -/
def layT (D : List UInt8) (e : Int) : List UInt8 :=
  if e < -7 then dotT D 1 ++ ([101, 45] ++ Lib.decDigits (-e).toNat)
  else if 20 < e then dotT D 1 ++ ([101, 43] ++ Lib.decDigits e.toNat)
  else if e < 0 then [48, 46] ++ (List.replicate (-e - 1).toNat 48 ++ D)
  else if (D.length : Int) < e + 1 then D ++ List.replicate (e + 1 - D.length).toNat 48
  else dotT D (e + 1).toNat
/-- The library's table of powers of ten. -/
def TB (w : World) : Prop := Lib.TabIs Tryd.prog w "internal/strconv.uint64pow10" .u64 Lib.pow10Tab
theorem TB.below {w w' : World} (h : TB w) (hb : Below w.heap.size w w') : TB w' := Lib.tabBelow_of_tabIs h w' hb
theorem below_grow (w : World) (k : Nat) (os : Array Obj) : Below w.heap.size w (Sort.grow (w.drewN k) os) :=
  ⟨rfl, rfl, rfl, by simp [Sort.grow], fun j hj => by simp only [Sort.grow, World.heap_drewN]; exact Array.getElem?_append_left hj⟩
theorem itoa_any (n : Nat) (w : World) (hn : n ≤ 1000) (hT : TB w) : Calls Tryd.prog 23 #[.int .i64 n] w fun e w' => e = .returned (.string (bs (Lib.decDigits n))) ∧ Below w.heap.size w w' := by
  refine (Tryd.strconv_Itoa n (by omega) (by omega) w hT).mono ?_
  rintro e w' ⟨he, k, os, rfl⟩
  refine ⟨?_, below_grow w k os⟩
  rw [he]
  unfold Lib.itoa
  rw [if_neg (by omega), Int.toNat_natCast]
  rfl
theorem repeatL_zeros (c : Nat) : Lib.repeatL [48] c = List.replicate c 48 := by
  induction c with
  | zero => rfl
  | succ c ih => rw [Lib.repeatL, ih, List.replicate_succ]; rfl
theorem rep0_any (c : Nat) (w : World) (hc : c ≤ 1000) : Calls Tryd.prog 24 #[.string ⟨#[48]⟩, .int .i64 c] w fun e w' => e = .returned (.string (bs (List.replicate c 48))) ∧ Below w.heap.size w w' := by
  have h : c = 0 ∨ c = 1 ∨ 2 ≤ c := by omega
  rcases h with rfl | rfl | h
  · refine (Tryd.strings_Repeat_zero ⟨#[48]⟩ w).mono ?_
    rintro e w' ⟨he, rfl⟩
    exact ⟨he, Below.refl _ _⟩
  · refine (Tryd.strings_Repeat_one ⟨#[48]⟩ w).mono ?_
    rintro e w' ⟨he, rfl⟩
    exact ⟨he, Below.refl _ _⟩
  · refine (Tryd.strings_Repeat_main ⟨#[48]⟩ c w h (by omega) (by show 1 * c ≤ _; omega) (by decide)).mono ?_
    rintro e w' ⟨he, hb⟩
    refine ⟨?_, hb⟩
    rw [he]
    show Ending.returned (.string ⟨(Lib.repeatL [48] c).toArray⟩) = _
    rw [repeatL_zeros]
    rfl

set_option maxHeartbeats 1000000 in
theorem withDot_any (D : List UInt8) (k : Nat) (w : World) (hk1 : 1 ≤ k) (hk2 : k ≤ D.length) (hD : D.length ≤ 1000) :
    Calls Tryd.prog 22 #[.string (bs D), .int .i64 k] w fun e w' => e = .returned (.string (bs (dotT D k))) ∧ Below w.heap.size w w' := by
  by_cases h : D.length = k
  · have e : dotT D k = D := if_pos h
    rw [e]
    refine (withDot_same (bs D) k w (by rw [bs_size]; exact h) (by omega)).mono ?_
    rintro e w' ⟨he, rfl⟩
    exact ⟨he, Below.refl _ _⟩
  · have e : dotT D k = D.take k ++ 46 :: D.drop k := if_neg h
    rw [e]
    have hs : (bs D).size = D.length := bs_size D
    have HX : Hid ((bs D).extract 0 k ++ ⟨#[46]⟩ ++ (bs D).extract k D.length = bs (D.take k ++ 46 :: D.drop k)) := by
      show _ = _
      rw [bs_extract, bs_extract, show (⟨#[46]⟩ : ByteArray) = bs [46] from rfl, bs_append, bs_append, List.drop_zero, Nat.sub_zero, List.take_of_length_le (l := D.drop k) (by rw [List.length_drop]; omega), List.append_assoc]
      rfl
    have z1 : ((bs D).extract 0 k).size = k := by rw [bs_extract, bs_size]; simp; omega
    have z2 : ((bs D).extract k D.length).size = D.length - k := by rw [bs_extract, bs_size]; simp
    have z3 : ((bs D).extract 0 k ++ ⟨#[46]⟩).size = k + 1 := by rw [ByteArray.size_append, z1]; rfl
    generalize bs (D.take k ++ 46 :: D.drop k) = R at *
    generalize bs D = s at *
    obtain ⟨n, hn⟩ : ∃ n, n = D.length := ⟨_, rfl⟩
    rw [← hn] at hs hk2 hD h HX z2
    clear hn e
    have hb1 : ((s.size : Int) == (k : Int)) = false := by rw [beq_eq_false_iff_ne]; omega
    have hn0 : (s.size : Int) = (n : Int) := by omega
    have q1 : (0 : Int) ≤ (k : Int) := by omega
    have q2 : (k : Int) ≤ (s.size : Int) := by omega
    go_enter Tryd.func22, Tryd.ntmps22
    go_wp2_with fail
    go_quiet (fail)
    go_wp2
    go_ret
    exact ⟨by rw [← HX.out]; rfl, below_drewN (Below.refl _ _) _⟩

end Go.Proofs.YtjbnjfdpfkdmeaaDoor

/-
  What the rows' readings give the walks of layer 5: texts that came in.
-/
namespace Go.Proofs.YtjbnjfdpfkdmeaaDoor
set_option maxRecDepth 100000
open Go.ChangeShapes Go.WideShapes Go.ChangeAt Go.RowKit Txt

theorem ownKnob_none : ownKnob Tryd.prog.godebug = none := by kernel_rfl
theorem laidOut : laidOutB Tryd.prog = true := by kernel_rfl
/-- A text that came in. -/
theorem open_text {W : World} {base : Nat} {v : Value} (hval : Value.okWide Tryd.prog W .any base 9 v) : ∃ l : List UInt8, v = .string (bs l) ∧ l.length ≤ maxLen := by
  simp only [Value.okWide, Tryd.underlying9, Cell.okWide] at hval
  cases v <;> simp_all [Cell.ok]
  next s =>
    refine ⟨s.data.toList, (bs_data s).symm, ?_⟩
    have e : s.data.toList.length = s.size := by rw [← bs_size, bs_data]
    unfold maxLen
    omega

end Go.Proofs.YtjbnjfdpfkdmeaaDoor

/-
  What the rows' readings give the walks of printing: the table of powers of ten, and numbers that came in.
-/
namespace Go.Proofs.YtjbnjfdpfkdmeaaDoor
set_option maxRecDepth 100000
open Go.ChangeShapes Go.WideShapes Go.ChangeAt Go.RowKit Flo

def laidPow : List (String × DataW Unit) := [("math/bits.deBruijn32tab", Rows.laid_math_bits_deBruijn32tab), ("math/bits.deBruijn64tab", Rows.laid_math_bits_deBruijn64tab), ("internal/strconv.uint64pow10", Rows.laid_internal_strconv_uint64pow10)]
theorem pow_data : (Rows.laid_internal_strconv_uint64pow10 : DataW Unit) = Lib.tabData .u64 Lib.pow10Tab := by kernel_rfl
/-- What the row's list gives: the table's cells. -/
theorem powTab {W : World} (h : laidMetH Tryd.prog laidPow W) : TB W := by
  have h2 : laidMet Tryd.prog [("internal/strconv.uint64pow10", Lib.tabData .u64 Lib.pow10Tab)] W := by
    rw [← pow_data]
    exact laidMet.tail (laidMet.tail h)
  obtain ⟨g, hg⟩ := Option.isSome_iff_exists.1 (by kernel_rfl : (Tryd.prog.globalNamed "internal/strconv.uint64pow10").isSome = true)
  have hb : ((Tryd.prog.globalNamed "internal/strconv.uint64pow10").bind fun g => (Tryd.prog.globals[g]?).map (·.type)) = some 112 := by kernel_rfl
  rw [hg] at hb
  exact Lib.tabIs_of_head (rest := []) hg hb Tryd.underlying112 Tryd.underlying22 (by kernel_rfl) (by kernel_rfl) h2
/-- A number that came in. -/
theorem open_num {W : World} {base : Nat} {v : Value} (hval : Value.okWide Tryd.prog W .any base 23 v) : ∃ n : Int, v = .int .u64 n ∧ U64 n := by
  simp only [Value.okWide, Tryd.underlying23, Cell.okWide] at hval
  cases v <;> simp_all [Cell.ok]
  next k n =>
    simp [IntKind.has, IntKind.min, IntKind.max, IntKind.signed, IntKind.bits] at hval
    exact ⟨by omega, by omega⟩

end Go.Proofs.YtjbnjfdpfkdmeaaDoor

/-
  The landed laidOut, and Print, walked.
-/
namespace Go.Proofs.YtjbnjfdpfkdmeaaDoor
set_option maxRecDepth 100000
open Go.RowKit Pt Txt

theorem bs3 (A B C : List UInt8) : bs A ++ bs B ++ bs C = bs (A ++ (B ++ C)) := by rw [bs_append, bs_append, List.append_assoc]
theorem dotT_len (D : List UInt8) (k : Nat) : (dotT D k).length ≤ D.length + 1 := by
  unfold dotT
  split
  · omega
  · rw [List.length_append, List.length_cons, List.length_take, List.length_drop]; omega
theorem dec_len {n : Nat} (h : n ≤ 999) : (Lib.decDigits n).length ≤ 3 := by
  by_cases h1 : n < 10
  · rw [Lib.decDigits, dif_pos h1]; simp
  · rw [Lib.decDigits, dif_neg h1]
    by_cases h2 : n / 10 < 10
    · rw [Lib.decDigits, dif_pos h2]; simp
    · rw [Lib.decDigits, dif_neg h2, Lib.decDigits, dif_pos (by omega)]; simp

set_option maxHeartbeats 2000000 in
theorem laidOut_any (D : List UInt8) (x : Int) (w : World) (hD1 : 1 ≤ D.length) (hD2 : D.length ≤ 100) (hx1 : -500 ≤ x) (hx2 : x ≤ 500) (hT : TB w) :
    Calls Tryd.prog 12 #[.string (bs D), .int .i64 x] w fun e w' => e = .returned (.string (bs (layT D x))) ∧ Below w.heap.size w w' := by
  have HT : Hid (TB w) := hT
  have HW : Hid (∀ (k : Nat) (w : World), 1 ≤ k → k ≤ D.length → Calls Tryd.prog 22 #[.string (bs D), .int .i64 k] w fun e w' => e = .returned (.string (bs (dotT D k))) ∧ Below w.heap.size w w') := fun k w h1 h2 => withDot_any D k w h1 h2 (by omega)
  have hs : (bs D).size = D.length := bs_size D
  have hdl := dotT_len D 1
  have hz1 : (bs (dotT D 1)).size = (dotT D 1).length := bs_size _
  clear hT
  by_cases c1 : x < -7
  · obtain ⟨n, hn⟩ : ∃ n : Nat, -x = (n : Int) := ⟨(-x).toNat, by omega⟩
    have HV : Hid (bs (dotT D 1) ++ ⟨#[101, 45]⟩ ++ bs (Lib.decDigits n) = bs (layT D x)) := by
      show _ = _
      unfold layT
      rw [if_pos c1, hn, Int.toNat_natCast]
      exact bs3 _ _ _
    have hl := dec_len (n := n) (by omega)
    have hz2 : (bs (Lib.decDigits n)).size = (Lib.decDigits n).length := bs_size _
    have hz3 : (bs (dotT D 1) ++ ⟨#[101, 45]⟩).size = (dotT D 1).length + 2 := by rw [ByteArray.size_append, hz1]; rfl
    have HI : Hid (∀ w, TB w → Calls Tryd.prog 23 #[.int .i64 n] w fun e w' => e = .returned (.string (bs (Lib.decDigits n))) ∧ Below w.heap.size w w') := fun w h => itoa_any n w (by omega) h
    have HN : Hid (-x = (n : Int)) := hn
    generalize bs (layT D x) = R at *
    generalize bs (Lib.decDigits n) = I at *
    generalize (Lib.decDigits n).length = li at *
    have HW1 := fun w => HW.out 1 w (Nat.le_refl _) hD1
    generalize bs (dotT D 1) = E at *
    generalize (dotT D 1).length = le at *
    clear hn
    go_enter Tryd.func12, Tryd.ntmps12
    go_wp2_with fail
    refine (HW1 _).mono ?_
    rintro e w1 ⟨rfl, hb1⟩
    go_wp2_with fail
    rw [HN.out]
    refine (HI.out _ (HT.out.below hb1)).mono ?_
    rintro e w2 ⟨rfl, hb2⟩
    have HB : Hid (Below w.heap.size w w2) := hb1.trans (hb2.mono hb1.size)
    clear hb1 hb2
    go_wp2
    go_ret
    exact ⟨by rw [← HV.out]; rfl, HB.out⟩
  · by_cases c2 : 20 < x
    · obtain ⟨n, rfl⟩ : ∃ n : Nat, x = (n : Int) := ⟨x.toNat, by omega⟩
      have HV : Hid (bs (dotT D 1) ++ ⟨#[101, 43]⟩ ++ bs (Lib.decDigits n) = bs (layT D n)) := by
        show _ = _
        unfold layT
        rw [if_neg c1, if_pos c2, Int.toNat_natCast]
        exact bs3 _ _ _
      have hl := dec_len (n := n) (by omega)
      have hz2 : (bs (Lib.decDigits n)).size = (Lib.decDigits n).length := bs_size _
      have hz3 : (bs (dotT D 1) ++ ⟨#[101, 43]⟩).size = (dotT D 1).length + 2 := by rw [ByteArray.size_append, hz1]; rfl
      have HI : Hid (∀ w, TB w → Calls Tryd.prog 23 #[.int .i64 n] w fun e w' => e = .returned (.string (bs (Lib.decDigits n))) ∧ Below w.heap.size w w') := fun w h => itoa_any n w (by omega) h
      generalize bs (layT D n) = R at *
      generalize bs (Lib.decDigits n) = I at *
      generalize (Lib.decDigits n).length = li at *
      have HW1 := fun w => HW.out 1 w (Nat.le_refl _) hD1
      generalize bs (dotT D 1) = E at *
      generalize (dotT D 1).length = le at *
      go_enter Tryd.func12, Tryd.ntmps12
      go_wp2_with fail
      refine (HW1 _).mono ?_
      rintro e w1 ⟨rfl, hb1⟩
      go_wp2_with fail
      refine (HI.out _ (HT.out.below hb1)).mono ?_
      rintro e w2 ⟨rfl, hb2⟩
      have HB : Hid (Below w.heap.size w w2) := hb1.trans (hb2.mono hb1.size)
      clear hb1 hb2
      go_wp2
      go_ret
      exact ⟨by rw [← HV.out]; rfl, HB.out⟩
    · by_cases c3 : x < 0
      · obtain ⟨n, hn⟩ : ∃ n : Nat, -(x + 1) = (n : Int) := ⟨(-(x + 1)).toNat, by omega⟩
        have HV : Hid ((⟨#[48, 46]⟩ : ByteArray) ++ bs (List.replicate n 48) ++ bs D = bs (layT D x)) := by
          show _ = _
          unfold layT
          rw [if_neg c1, if_neg c2, if_pos c3, show (-x - 1).toNat = n by omega]
          exact bs3 [48, 46] _ _
        have hz2 : (bs (List.replicate n 48)).size = n := by rw [bs_size, List.length_replicate]
        have hz3 : ((⟨#[48, 46]⟩ : ByteArray) ++ bs (List.replicate n 48)).size = 2 + n := by rw [ByteArray.size_append, hz2]; rfl
        have HR : Hid (∀ w, Calls Tryd.prog 24 #[.string ⟨#[48]⟩, .int .i64 n] w fun e w' => e = .returned (.string (bs (List.replicate n 48))) ∧ Below w.heap.size w w') := fun w => rep0_any n w (by omega)
        have hn6 : n ≤ 6 := by omega
        have HN : Hid (-(x + 1) = (n : Int)) := hn
        generalize bs (layT D x) = R at *
        generalize bs (List.replicate n 48) = I at *
        clear hn
        go_enter Tryd.func12, Tryd.ntmps12
        go_wp2_with fail
        rw [HN.out]
        refine (HR.out _).mono ?_
        rintro e w1 ⟨rfl, hb1⟩
        have HB : Hid (Below w.heap.size w w1) := hb1
        clear hb1
        go_wp2
        go_ret
        exact ⟨by rw [← HV.out]; rfl, HB.out⟩
      · obtain ⟨n, rfl⟩ : ∃ n : Nat, x = (n : Int) := ⟨x.toNat, by omega⟩
        by_cases c4 : D.length < n + 1
        · have HV : Hid (bs D ++ bs (List.replicate (n + 1 - D.length) 48) = bs (layT D n)) := by
            show _ = _
            unfold layT
            rw [if_neg c1, if_neg c2, if_neg c3, if_pos (by omega), show ((n : Int) + 1 - (D.length : Nat)).toNat = n + 1 - D.length by omega]
            exact bs_append _ _
          have hz2 : (bs (List.replicate (n + 1 - D.length) 48)).size = n + 1 - D.length := by rw [bs_size, List.length_replicate]
          have HR : Hid (∀ w, Calls Tryd.prog 24 #[.string ⟨#[48]⟩, .int .i64 ((n + 1 - D.length : Nat) : Int)] w fun e w' => e = .returned (.string (bs (List.replicate (n + 1 - D.length) 48))) ∧ Below w.heap.size w w') := fun w => rep0_any _ w (by omega)
          have HN : Hid ((n : Int) + 1 - (D.length : Int) = ((n + 1 - D.length : Nat) : Int)) := by show _ = _; omega
          have c5 : (D.length : Int) < (n : Int) + 1 := by omega
          have hm : n + 1 - D.length ≤ 21 := by omega
          generalize bs (layT D n) = R at *
          generalize bs (List.replicate (n + 1 - D.length) 48) = I at *
          generalize n + 1 - D.length = m at *
          generalize D.length = d at *
          go_enter Tryd.func12, Tryd.ntmps12
          go_wp2_with fail
          rw [HN.out]
          refine (HR.out _).mono ?_
          rintro e w1 ⟨rfl, hb1⟩
          have HB : Hid (Below w.heap.size w w1) := hb1
          clear hb1
          go_wp2
          go_ret
          exact ⟨by rw [← HV.out]; rfl, HB.out⟩
        · have HV : Hid (bs (dotT D (n + 1)) = bs (layT D n)) := by
            show _ = _
            unfold layT
            rw [if_neg c1, if_neg c2, if_neg c3, if_neg (by omega), show ((n : Int) + 1).toNat = n + 1 by omega]
          have HW1 : Hid (∀ w, Calls Tryd.prog 22 #[.string (bs D), .int .i64 ((n : Int) + 1)] w fun e w' => e = .returned (.string (bs (dotT D (n + 1)))) ∧ Below w.heap.size w w') := fun w => by
            have := HW.out (n + 1) w (by omega) (by omega)
            rw [Int.natCast_add] at this
            exact this
          have c5 : ¬ (D.length : Int) < (n : Int) + 1 := by omega
          generalize bs (layT D n) = R at *
          generalize bs (dotT D (n + 1)) = E at *
          go_enter Tryd.func12, Tryd.ntmps12
          go_wp2_with fail
          refine (HW1.out _).mono ?_
          rintro e w1 ⟨rfl, hb1⟩
          have HB : Hid (Below w.heap.size w w1) := hb1
          clear hb1
          go_wp2
          go_ret
          exact ⟨by rw [← HV.out]; rfl, HB.out⟩

end Go.Proofs.YtjbnjfdpfkdmeaaDoor

/-
  The landed Parse, walked: what is said of any text.
-/
namespace Go.Proofs.YtjbnjfdpfkdmeaaDoor
set_option maxRecDepth 100000
open Go.RowKit Pt Flo Txt

theorem numL_all {l D : List UInt8} {E : Int} (h : numL l = some (D, E)) : AllD D ∧ D.length ≤ l.length := by
  have hlen := congrArg List.length (dig_rst l)
  rw [List.length_append] at hlen
  unfold numL at h
  split at h
  · simp at h
  · split at h
    · simp at h
      obtain ⟨rfl, rfl⟩ := h
      exact ⟨allD_take l, by omega⟩
    · next c r hr =>
      rw [hr, List.length_cons] at hlen
      have hlen2 := congrArg List.length (dig_rst r)
      rw [List.length_append] at hlen2
      split at h
      · split at h
        · simp at h
        · obtain ⟨x, hx, h2⟩ := Option.map_eq_some_iff.1 h
          simp at h2
          obtain ⟨rfl, rfl⟩ := h2
          refine ⟨?_, by rw [List.length_append]; omega⟩
          intro c hc
          rcases List.mem_append.1 hc with q | q
          · exact allD_take l c q
          · exact allD_take r c q
      · obtain ⟨x, hx, h2⟩ := Option.map_eq_some_iff.1 h
        simp at h2
        obtain ⟨rfl, rfl⟩ := h2
        exact ⟨allD_take l, by omega⟩
theorem dv_bound {D : List UInt8} (hD : AllD D) (hl : D.length ≤ 400) : dv D 0 < 10 ^ DG := by
  have := dv_lt D 0 hD
  rw [Nat.zero_add, Nat.one_mul] at this
  exact Nat.lt_of_lt_of_le this (Nat.pow_le_pow_right (by decide) (by rw [DG_eq]; exact hl))
theorem nearest_any (D : List UInt8) (x : Int) (w : World) (hD : AllD D) (hl : D.length ≤ 400) (hx1 : -41000 ≤ x) (hx2 : x ≤ 41000) :
    Calls Tryd.prog 14 #[.agg #[.string (bs D), .int .i64 x]] w fun e w' => e = .returned (.int .u64 (decN (dv D 0) x : Nat)) ∧ Below w.heap.size w w' := by
  have hsz := bs_size D
  refine nearest_gen (bs D) (fun k => dv (D.take k) 0) (dv D 0) x w hx1 hx2 (by omega) ?_ ?_ ?_ ?_
  · intro k h
    have h2 : k < D.length := by omega
    rw [bs_get _ _ h]
    have := isD_get hD h2
    exact ⟨by omega, dv_take h2⟩
  · show dv (D.take _) 0 = _; rw [hsz, List.take_length]
  · rfl
  · intro k hk
    exact dv_bound (fun c hc => hD c (List.mem_of_mem_take hc)) (by rw [List.length_take]; omega)

/-- What Parse answers. -/
def parseW (l : List UInt8) : Nat × Nat :=
  if 400 < l.length then (0, 2) else
  match numL l with
  | none => (0, 4)
  | some (D, E) => (decN (dv D 0) E, 0)
theorem parseW_long {l : List UInt8} (h : 400 < l.length) : parseW l = (0, 2) := by unfold parseW; rw [if_pos h]
theorem parseW_none {l : List UInt8} (h : l.length ≤ 400) (h2 : numL l = none) : parseW l = (0, 4) := by unfold parseW; rw [if_neg (by omega), h2]
theorem parseW_some {l D : List UInt8} {E : Int} (h : l.length ≤ 400) (h2 : numL l = some (D, E)) : parseW l = (decN (dv D 0) E, 0) := by unfold parseW; rw [if_neg (by omega), h2]

set_option maxHeartbeats 1000000 in
theorem parse_any (l : List UInt8) (w : World) (hl : l.length ≤ maxLen) :
    Calls Tryd.prog 7 #[.string (bs l)] w fun e w' => e = .returned (.tuple #[.int .u64 ((parseW l).1 : Nat), .int .i64 ((parseW l).2 : Nat)]) ∧ Below w.heap.size w w' := by
  have hsz := bs_size l
  unfold maxLen at hl
  by_cases c : 400 < l.length
  · rw [parseW_long c]
    have h1 : (400 : Int) < ((bs l).size : Int) := by omega
    clear c hl
    generalize bs l = s at *
    clear hsz
    go_enter Tryd.func7, Tryd.ntmps7
    go_wp2
    go_ret2
    exact ⟨rfl, Below.refl _ _⟩
  · have h1 : ¬ (400 : Int) < ((bs l).size : Int) := by omega
    cases hn : numL l with
    | none =>
      rw [parseW_none (by omega) hn]
      have HR : Hid (∀ w, Calls Tryd.prog 13 #[.string (bs l)] w fun e w' => e = .returned (.tuple #[.agg #[.string ⟨#[]⟩, .int .i64 0], .bool false]) ∧ Below w.heap.size w w') := fun w => read_none l w (by omega) hn
      clear hn c hl
      generalize bs l = s at *
      clear hsz
      go_enter Tryd.func7, Tryd.ntmps7
      go_wp2_with (go_at_call 13; refine (HR.out _).mono ?_; rintro e w1 ⟨rfl, hb1⟩)
      go_ret2
      exact ⟨rfl, hb1.alloc hb1.size _⟩
    | some p =>
      obtain ⟨D, E⟩ := p
      rw [parseW_some (by omega) hn]
      obtain ⟨hD, hDl⟩ := numL_all hn
      have HR : Hid (∀ w, Calls Tryd.prog 13 #[.string (bs l)] w fun e w' => (∃ x, Held x E ∧ -41000 ≤ x ∧ x ≤ 41000 ∧ e = .returned (.tuple #[.agg #[.string (bs D), .int .i64 x], .bool true])) ∧ Below w.heap.size w w') := fun w => read_yes l D E w (by omega) hn
      have HX : Hid (∀ x w, Held x E → -41000 ≤ x → x ≤ 41000 → Calls Tryd.prog 14 #[.agg #[.string (bs D), .int .i64 x]] w fun e w' => e = .returned (.int .u64 (decN (dv D 0) E : Nat)) ∧ Below w.heap.size w w') := by
        intro x w h0 h1 h2
        rw [← dec_held (dv_bound hD (by omega)) h0]
        exact nearest_any D x w hD (by omega) h1 h2
      clear hn c hl hD hDl
      generalize bs l = s at *
      clear hsz
      go_enter Tryd.func7, Tryd.ntmps7
      go_wp2_with fail
      refine (HR.out _).mono ?_
      rintro e w1 ⟨⟨x, hx0, hx1, hx2, rfl⟩, hb1⟩
      have HH : Hid (Held x E) := hx0
      clear hx0
      go_wp2_with fail
      refine (HX.out x _ HH.out hx1 hx2).mono ?_
      rintro e w2 ⟨rfl, hb2⟩
      go_wp2
      go_ret2
      exact ⟨rfl, (hb1.alloc hb1.size _).trans (hb2.mono (by have := hb1.size; simp; omega))⟩

end Go.Proofs.YtjbnjfdpfkdmeaaDoor

/-
  The reference's digits and Read, walked.
-/
namespace Go.Proofs.YtjbnjfdpfkdmeaaDoor
set_option maxRecDepth 100000
open Go.RowKit Txt

theorem set_new (w : World) (cs : Array Value) (t j : Nat) (fr : Nat × Nat) (c : Value) : (w.alloc (.cells cs t fr)).setCell ⟨w.heap.size, j, none⟩ c = w.alloc (.cells (cs.setIfInBounds j c) t fr) := by
  unfold World.setCell World.alloc
  congr 1
  apply Array.ext
  · simp
  · intro i h1 h2
    rw [Array.getElem_modify]
    by_cases e : w.heap.size = i
    · subst e; simp
    · rw [if_neg e]
      have hi : i < w.heap.size := by simp at h2; omega
      show (w.heap.push _)[i]'(by simp; omega) = _
      rw [Array.getElem_push_lt hi, Array.getElem_push_lt hi]

def dg (l : List UInt8) (p : Nat) : Nat := p + (Txt.dig (l.drop p)).length
theorem dg_le (l : List UInt8) {p : Nat} (h : p ≤ l.length) : p ≤ dg l p ∧ dg l p ≤ l.length := by
  unfold dg
  have := congrArg List.length (dig_rst (l.drop p))
  rw [List.length_append, List.length_drop] at this
  omega

set_option maxHeartbeats 1000000 in
theorem refDigits_any (l : List UInt8) (p : Nat) (w : World) (hl : l.length ≤ 1000000) (hp : p ≤ l.length) :
    Calls Tryd.prog 15 #[.string (bs l), .int .i64 p] w fun e w' => e = .returned (.int .i64 (dg l p : Nat)) ∧ w' = w := by
  have HG : Hid (∀ k (h : k < (bs l).size) (h2 : k < l.length), (bs l)[k]'h = l[k]) := fun k h _ => bs_get l k h
  have hsz := bs_size l
  have HEnd : Hid (∀ q, p ≤ q → q ≤ l.length → (∀ j (h : j < l.length), p ≤ j → j < q → isD l[j] = true) → (∀ h : q < l.length, isD l[q] = false) → dg l p = q) := by
    intro q h1 h2 h3 h4
    have hlen : (l.drop p).length = l.length - p := List.length_drop
    have := (span_of (l.drop p) (q - p) (by omega) (fun j h hj => by
      rw [List.getElem_drop]; exact h3 (p + j) (by omega) (by omega) (by omega)) (fun h => by
      rw [List.getElem_drop]
      have := h4 (by omega)
      simpa [show p + (q - p) = q by omega] using this)).1
    unfold dg Txt.dig
    rw [this, List.length_take]
    omega
  generalize bs l = s at *
  have hs2 : s.size ≤ 1000000 := by omega
  have HS : Hid (s.size = l.length) := hsz
  have hp2 : p ≤ s.size := by omega
  generalize dg l p = R at *
  clear hsz hl hp
  go_enter Tryd.func15, Tryd.ntmps15
  go_wp2_with fail
  go_loop [1] (fun t => ∃ k : Nat, p ≤ k ∧ k ≤ s.size ∧ t = .int .i64 k ∧ Hid (∀ j (h : j < l.length), p ≤ j → j < k → isD l[j] = true)) (fun t => s.size - (intOf t).toNat)
  case atStart => exact ⟨p, Nat.le_refl _, hp2, rfl, fun j _ h h2 => by omega⟩
  case round =>
    obtain ⟨k, hpk, hk, rfl, HI⟩ := hrel
    have HX : Hid ((∀ h : k < l.length, isD l[k] = false) → R = k) := fun h => HEnd.out k hpk (by have := HS.out; omega) HI.out h
    by_cases hlt : k < s.size
    · have hg := HG.out k hlt (by have := HS.out; omega)
      by_cases h48 : 48 ≤ (s[k].toNat : Int)
      · by_cases h57 : (s[k].toNat : Int) ≤ 57
        · have HN : Hid (∀ j (h : j < l.length), p ≤ j → j < k + 1 → isD l[j] = true) := by
            intro j h h1 hj
            by_cases e : j = k
            · subst e; rw [← hg]; exact isD_true h48 h57
            · exact HI.out j h h1 (by omega)
          clear hg
          go_wp2
          go_round
          case rel => exact ⟨k + 1, by omega, by omega, by go_num, HN⟩
          case measure => simp [intOf]; omega
        · have e : R = k := HX.out fun h => by rw [← hg]; exact isD_false (by omega)
          subst e
          clear hg
          go_wp2
          go_ret
          exact ⟨rfl, rfl⟩
      · have e : R = k := HX.out fun h => by rw [← hg]; exact isD_false (by omega)
        subst e
        clear hg
        go_wp2
        go_ret
        exact ⟨rfl, rfl⟩
    · have e : R = k := HX.out fun h => by have := HS.out; omega
      subst e
      go_wp2
      go_ret
      exact ⟨rfl, rfl⟩

/-- The two boxes of Read. -/
def bx (w : World) (D : ByteArray) (X : Int) : World := (w.alloc (.cells #[.string ⟨#[]⟩, .int .i64 0] 31)).alloc (.cells #[.string D, .int .i64 X] 31)
theorem bx_D (w : World) (D D' : ByteArray) (X : Int) : (bx w D X).setCell ⟨w.heap.size + 1, 0, none⟩ (.string D') = bx w D' X := by
  unfold bx
  have := set_new (w.alloc (.cells #[.string ⟨#[]⟩, .int .i64 0] 31)) #[.string D, .int .i64 X] 31 0 (0, 0) (.string D')
  rw [show (w.alloc (.cells #[.string ⟨#[]⟩, .int .i64 0] 31)).heap.size = w.heap.size + 1 by simp] at this
  exact this
theorem bx_X (w : World) (D : ByteArray) (X Y : Int) : (bx w D X).setCell ⟨w.heap.size + 1, 1, none⟩ (.int .i64 Y) = bx w D Y := by
  unfold bx
  have := set_new (w.alloc (.cells #[.string ⟨#[]⟩, .int .i64 0] 31)) #[.string D, .int .i64 X] 31 1 (0, 0) (.int .i64 Y)
  rw [show (w.alloc (.cells #[.string ⟨#[]⟩, .int .i64 0] 31)).heap.size = w.heap.size + 1 by simp] at this
  exact this

theorem dig_len (x : List UInt8) : Txt.dig x = x.take (Txt.dig x).length ∧ rst x = x.drop (Txt.dig x).length := by
  have h := dig_rst x
  generalize Txt.dig x = a at *
  generalize rst x = b at *
  subst h
  exact ⟨by rw [List.take_left], by rw [List.drop_left]⟩
theorem dig_at (l : List UInt8) (p : Nat) : Txt.dig (l.drop p) = (l.drop p).take (dg l p - p) ∧ rst (l.drop p) = l.drop (dg l p) := by
  have h := dig_len (l.drop p)
  have e : dg l p - p = (Txt.dig (l.drop p)).length := by unfold dg; omega
  rw [e]
  refine ⟨h.1, ?_⟩
  rw [h.2, List.drop_drop]; rfl
theorem dig_nil (l : List UInt8) (p : Nat) : Txt.dig (l.drop p) = [] ↔ dg l p = p := by
  unfold dg
  constructor
  · intro h; rw [h]; rfl
  · intro h; exact List.eq_nil_of_length_eq_zero (by omega)
theorem drop_cons {l : List UInt8} {p : Nat} (h : p < l.length) : l.drop p = l[p] :: l.drop (p + 1) := List.drop_eq_getElem_cons h
/-- What is read so far: up to p, the digits D and the power X. -/
def RJ (l : List UInt8) (p : Nat) (D : List UInt8) (X : Int) : Prop := p ≤ l.length ∧ -400 ≤ X ∧ X ≤ 0 ∧ numL l = (Txt.expo (l.drop p)).map fun e => (D, e + X)
theorem rj_none {l : List UInt8} (h : dg l 0 = 0) : numL l = none := by
  have := (dig_nil l 0).2 h
  unfold numL
  rw [List.drop_zero] at this
  rw [if_pos this]
theorem rj_plain {l : List UInt8} (h : dg l 0 ≠ 0) (hd : ∀ h : dg l 0 < l.length, l[dg l 0].toNat ≠ 46) : RJ l (dg l 0) (l.take (dg l 0)) 0 := by
  refine ⟨(dg_le l (Nat.zero_le _)).2, by omega, by omega, ?_⟩
  have h1 : Txt.dig l ≠ [] := fun e => h ((dig_nil l 0).1 (by rw [List.drop_zero]; exact e))
  have h2 := dig_at l 0
  rw [List.drop_zero, Nat.sub_zero] at h2
  unfold numL
  rw [if_neg h1, h2.1, h2.2]
  by_cases c : dg l 0 < l.length
  · rw [drop_cons c]
    show (if l[dg l 0].toNat = 46 then _ else _) = _
    rw [if_neg (hd c)]
    simp
  · rw [List.drop_eq_nil_of_le (by omega)]
    simp [Txt.expo]
theorem rj_dot0 {l : List UInt8} (h : dg l 0 ≠ 0) (hc : dg l 0 < l.length) (hd : l[dg l 0].toNat = 46) (h2 : dg l (dg l 0 + 1) = dg l 0 + 1) : numL l = none := by
  have h1 : Txt.dig l ≠ [] := fun e => h ((dig_nil l 0).1 (by rw [List.drop_zero]; exact e))
  have h3 := dig_at l 0
  rw [List.drop_zero, Nat.sub_zero] at h3
  unfold numL
  rw [if_neg h1, h3.2, drop_cons hc]
  show (if l[dg l 0].toNat = 46 then _ else _) = _
  rw [if_pos hd, if_pos ((dig_nil l _).2 h2)]
theorem rj_dot {l : List UInt8} (hl : l.length ≤ 400) (h : dg l 0 ≠ 0) (hc : dg l 0 < l.length) (hd : l[dg l 0].toNat = 46) (h2 : dg l (dg l 0 + 1) ≠ dg l 0 + 1) :
    RJ l (dg l (dg l 0 + 1)) (l.take (dg l 0) ++ (l.drop (dg l 0 + 1)).take (dg l (dg l 0 + 1) - (dg l 0 + 1))) ((dg l 0 : Int) + 1 - dg l (dg l 0 + 1)) := by
  have g := dg_le l (show dg l 0 + 1 ≤ l.length by omega)
  refine ⟨g.2, by omega, by omega, ?_⟩
  have h1 : Txt.dig l ≠ [] := fun e => h ((dig_nil l 0).1 (by rw [List.drop_zero]; exact e))
  have h3 := dig_at l 0
  rw [List.drop_zero, Nat.sub_zero] at h3
  have h4 := dig_at l (dg l 0 + 1)
  unfold numL
  rw [if_neg h1, h3.1, h3.2, drop_cons hc]
  show (if l[dg l 0].toNat = 46 then _ else _) = _
  rw [if_pos hd, if_neg (fun e => h2 ((dig_nil l _).1 e)), h4.1, h4.2]
  congr 1
  funext e
  rw [List.length_take, List.length_drop]
  congr 1
  omega
/-- The exponent, from q on: what is read as a sign. -/
theorem rs_end (l : List UInt8) {q : Nat} (h : l.length ≤ q) : expS (l.drop q) = none := by rw [List.drop_eq_nil_of_le h]; rfl
theorem rs_minus {l : List UInt8} {q : Nat} (h : q < l.length) (hc : l[q].toNat = 45) : expS (l.drop q) = expD true (l.drop (q + 1)) := by
  rw [drop_cons h, expS_cons, if_pos hc]
theorem rs_plus {l : List UInt8} {q : Nat} (h : q < l.length) (hc : l[q].toNat = 43) : expS (l.drop q) = expD false (l.drop (q + 1)) := by
  rw [drop_cons h, expS_cons, if_neg (by omega), if_pos hc]
theorem rs_plain {l : List UInt8} {q : Nat} (hc : ∀ h : q < l.length, l[q].toNat ≠ 45 ∧ l[q].toNat ≠ 43) : expS (l.drop q) = expD false (l.drop q) := by
  by_cases h : q < l.length
  · have := hc h
    rw [drop_cons h, expS_cons, if_neg this.1, if_neg this.2]
  · rw [List.drop_eq_nil_of_le (by omega)]
    rfl
theorem rd_none {l : List UInt8} {r : Nat} {neg : Bool} (hr : r ≤ l.length) (h : r = l.length ∨ dg l r ≠ l.length) : expD neg (l.drop r) = none := by
  unfold expD
  split
  · rfl
  · next h1 =>
    have h2 := (dig_at l r).2
    rw [h2]
    rcases h with h | h
    · exfalso
      apply h1
      rw [List.drop_eq_nil_of_le (by omega)]; rfl
    · rw [if_neg (by rw [List.drop_eq_nil_iff]; have := (dg_le l hr).2; omega)]
theorem rd_some {l : List UInt8} {r : Nat} {neg : Bool} (hr : r < l.length) (h : dg l r = l.length) : expD neg (l.drop r) = some (if neg then -(dv (l.drop r) 0 : Int) else dv (l.drop r) 0) ∧ AllD (l.drop r) := by
  have h2 := dig_at l r
  rw [h, List.take_of_length_le (by rw [List.length_drop]; omega), List.drop_length] at h2
  refine ⟨?_, by rw [← h2.1]; exact allD_take _⟩
  unfold expD
  rw [h2.1, h2.2, if_neg (by intro e; have := congrArg List.length e; rw [List.length_drop] at this; simp at this; omega), if_pos rfl]
/-- The exponent as it is held. -/
def Hd9 (x E : Int) : Prop := x = E ∨ (9000 ≤ x ∧ 9000 ≤ E ∧ x ≤ 11000) ∨ (x ≤ -9000 ∧ E ≤ -9000 ∧ -11000 ≤ x)
theorem hd9_of {e d : Nat} {X : Int} (neg : Bool) (h : min e 9999 = min d 9999) (h2 : e ≤ 9999) (hX : -400 ≤ X) (hX0 : X ≤ 0) :
    Hd9 (X + (if neg then -(e : Int) else e)) ((if neg then -(d : Int) else d) + X) ∧ -11000 ≤ X + (if neg then -(e : Int) else e) ∧ X + (if neg then -(e : Int) else e) ≤ 11000 := by
  unfold Hd9
  cases neg <;> simp <;> omega
theorem e_step {e d c : Nat} (h : min e 9999 = min d 9999) : (e < 9999 → min (10 * e + c) 9999 = min (d * 10 + c) 9999) ∧ (¬ e < 9999 → min e 9999 = min (d * 10 + c) 9999) := by omega

/-- What Read tells. -/
def RR (w : World) (l : List UInt8) (e : Ending) (w' : World) : Prop :=
  Below w.heap.size w w' ∧ ((numL l = none ∧ ∃ D X, e = .returned (.tuple #[.agg #[.string D, .int .i64 X], .bool false])) ∨
    ∃ D E x, numL l = some (D, E) ∧ Hd9 x E ∧ -11000 ≤ x ∧ x ≤ 11000 ∧ e = .returned (.tuple #[.agg #[.string (bs D), .int .i64 x], .bool true]))

end Go.Proofs.YtjbnjfdpfkdmeaaDoor
