/-
  Ps3, VfClose, RfRead, RfNear
-/
import Derived.Lib.AppendIntMem
import Derived.Deep.QuietTactic
import Derived.BigQuiet
import Derived.Stop.LaidErr
import Derived.Deep.RegionHeld3
import Derived.Test.YtgbajhenmamjjaaGreatDoorZ19

/-
  The landed laidOut, walked for any digits and place.
-/
namespace Go.Proofs.YtgbajhenmamjjaaGreatDoor
set_option maxRecDepth 100000
open Go.RowKit Pt Txt

/-- Digits with a dot behind so many of them, unless nothing is behind it. -/
def dotT (D : List UInt8) (k : Nat) : List UInt8 := if D.length = k then D else D.take k ++ 46 :: D.drop k
/-- Digits of which the first stands for 10 to the power e, as they are written. -/
def layT (D : List UInt8) (e : Int) : List UInt8 :=
  if e < -7 then dotT D 1 ++ ([101, 45] ++ Lib.decDigits (-e).toNat)
  else if 20 < e then dotT D 1 ++ ([101, 43] ++ Lib.decDigits e.toNat)
  else if e < 0 then [48, 46] ++ (List.replicate (-e - 1).toNat 48 ++ D)
  else if (D.length : Int) < e + 1 then D ++ List.replicate (e + 1 - D.length).toNat 48
  else dotT D (e + 1).toNat
/-- The library's table of powers of ten. -/
def TB (w : World) : Prop := Lib.TabIs Tryz.prog w "internal/strconv.uint64pow10" .u64 Lib.pow10Tab
theorem TB.below {w w' : World} (h : TB w) (hb : Below w.heap.size w w') : TB w' := Lib.tabBelow_of_tabIs h w' hb
theorem below_grow (w : World) (k : Nat) (os : Array Obj) : Below w.heap.size w (Sort.grow (w.drewN k) os) :=
  ⟨rfl, rfl, rfl, by simp [Sort.grow], fun j hj => by simp only [Sort.grow, World.heap_drewN]; exact Array.getElem?_append_left hj⟩
theorem itoa_any (n : Nat) (w : World) (hn : n ≤ 1000) (hT : TB w) : Calls Tryz.prog 46 #[.int .i64 n] w fun e w' => e = .returned (.string (bs (Lib.decDigits n))) ∧ Below w.heap.size w w' := by
  refine (Tryz.strconv_Itoa n (by omega) (by omega) w hT).mono ?_
  rintro e w' ⟨he, k, os, rfl⟩
  refine ⟨?_, below_grow w k os⟩
  rw [he]
  unfold Lib.itoa
  rw [if_neg (by omega), Int.toNat_natCast]
  rfl
theorem repeatL_zeros (c : Nat) : Lib.repeatL [48] c = List.replicate c 48 := by
  induction c with
  | zero => rfl
  | succ c ih => rw [Lib.repeatL, ih, List.replicate_succ]; rfl
theorem rep0_any (c : Nat) (w : World) (hc : c ≤ 1000) : Calls Tryz.prog 47 #[.string ⟨#[48]⟩, .int .i64 c] w fun e w' => e = .returned (.string (bs (List.replicate c 48))) ∧ Below w.heap.size w w' := by
  have h : c = 0 ∨ c = 1 ∨ 2 ≤ c := by omega
  rcases h with rfl | rfl | h
  · refine (Tryz.strings_Repeat_zero ⟨#[48]⟩ w).mono ?_
    rintro e w' ⟨he, rfl⟩
    exact ⟨he, Below.refl _ _⟩
  · refine (Tryz.strings_Repeat_one ⟨#[48]⟩ w).mono ?_
    rintro e w' ⟨he, rfl⟩
    exact ⟨he, Below.refl _ _⟩
  · refine (Tryz.strings_Repeat_main ⟨#[48]⟩ c w h (by omega) (by show 1 * c ≤ _; omega) (by decide)).mono ?_
    rintro e w' ⟨he, hb⟩
    refine ⟨?_, hb⟩
    rw [he]
    show Ending.returned (.string ⟨(Lib.repeatL [48] c).toArray⟩) = _
    rw [repeatL_zeros]
    rfl

set_option maxHeartbeats 1000000 in
theorem withDot_any (D : List UInt8) (k : Nat) (w : World) (hk1 : 1 ≤ k) (hk2 : k ≤ D.length) (hD : D.length ≤ 1000) :
    Calls Tryz.prog 45 #[.string (bs D), .int .i64 k] w fun e w' => e = .returned (.string (bs (dotT D k))) ∧ Below w.heap.size w w' := by
  by_cases h : D.length = k
  · have e : dotT D k = D := if_pos h
    rw [e]
    refine (withDot_same (bs D) k w (by rw [bs_size]; exact h) (by omega)).mono ?_
    rintro e w' ⟨he, rfl⟩
    exact ⟨he, Below.refl _ _⟩
  · have e : dotT D k = D.take k ++ 46 :: D.drop k := if_neg h
    rw [e]
    have hs : (bs D).size = D.length := bs_size D
    have HX : Hid ((bs D).extract 0 k ++ ⟨#[46]⟩ ++ (bs D).extract k D.length = bs (D.take k ++ 46 :: D.drop k)) := by
      show _ = _
      rw [bs_extract, bs_extract, show (⟨#[46]⟩ : ByteArray) = bs [46] from rfl, bs_append, bs_append, List.drop_zero, Nat.sub_zero, List.take_of_length_le (l := D.drop k) (by rw [List.length_drop]; omega), List.append_assoc]
      rfl
    have z1 : ((bs D).extract 0 k).size = k := by rw [bs_extract, bs_size]; simp; omega
    have z2 : ((bs D).extract k D.length).size = D.length - k := by rw [bs_extract, bs_size]; simp
    have z3 : ((bs D).extract 0 k ++ ⟨#[46]⟩).size = k + 1 := by rw [ByteArray.size_append, z1]; rfl
    generalize bs (D.take k ++ 46 :: D.drop k) = R at *
    generalize bs D = s at *
    obtain ⟨n, hn⟩ : ∃ n, n = D.length := ⟨_, rfl⟩
    rw [← hn] at hs hk2 hD h HX z2
    clear hn e
    have hb1 : ((s.size : Int) == (k : Int)) = false := by rw [beq_eq_false_iff_ne]; omega
    have hn0 : (s.size : Int) = (n : Int) := by omega
    have q1 : (0 : Int) ≤ (k : Int) := by omega
    have q2 : (k : Int) ≤ (s.size : Int) := by omega
    go_enter Tryz.func45, Tryz.ntmps45
    go_wp2_with fail
    go_quiet (fail)
    go_wp2
    go_ret
    exact ⟨by rw [← HX.out]; rfl, below_drewN (Below.refl _ _) _⟩

end Go.Proofs.YtgbajhenmamjjaaGreatDoor

/-
  What the row's readings give the walk of ValueForms: both tables.
-/
namespace Go.Proofs.YtgbajhenmamjjaaGreatDoor
set_option maxRecDepth 100000
open Go.ChangeShapes Go.WideShapes Go.ChangeAt Go.RowKit Flo

def laidBoth : List (String × DataW Unit) := [("math/bits.deBruijn32tab", Rows.laid_math_bits_deBruijn32tab), ("math/bits.deBruijn64tab", Rows.laid_math_bits_deBruijn64tab), ("internal/strconv.uint64pow10", Rows.laid_internal_strconv_uint64pow10), ("minstrel/value.names", Rows.laid_minstrel_value_names)]
theorem pow_data8 : (Rows.laid_internal_strconv_uint64pow10 : DataW Unit) = Lib.tabData .u64 Lib.pow10Tab := by kernel_rfl
theorem bothTabs {W : World} (h : laidMetH Tryz.prog laidBoth W) : Nb W ∧ TB W := by
  have h0 : laidMet Tryz.prog laidBoth W := h
  have h1 : laidMet Tryz.prog [("internal/strconv.uint64pow10", Rows.laid_internal_strconv_uint64pow10), ("minstrel/value.names", Rows.laid_minstrel_value_names)] W := laidMet.tail (laidMet.tail h0)
  have h2 : laidMet Tryz.prog laidNames W := laidMet.tail h1
  refine ⟨names h2, ?_⟩
  obtain ⟨g, hg⟩ := Option.isSome_iff_exists.1 (by kernel_rfl : (Tryz.prog.globalNamed "internal/strconv.uint64pow10").isSome = true)
  have hb : ((Tryz.prog.globalNamed "internal/strconv.uint64pow10").bind fun g => (Tryz.prog.globals[g]?).map (·.type)) = some 151 := by kernel_rfl
  rw [hg] at hb
  rw [pow_data8] at h1
  exact Lib.tabIs_of_head hg hb Tryz.underlying151 Tryz.underlying22 (by kernel_rfl) (by kernel_rfl) h1

end Go.Proofs.YtgbajhenmamjjaaGreatDoor

/-
  The reference's digits and Read, walked.
-/
namespace Go.Proofs.YtgbajhenmamjjaaGreatDoor
set_option maxRecDepth 100000
open Go.RowKit Txt

theorem set_new (w : World) (cs : Array Value) (t j : Nat) (fr : Nat × Nat) (c : Value) : (w.alloc (.cells cs t fr)).setCell ⟨w.heap.size, j, none⟩ c = w.alloc (.cells (cs.setIfInBounds j c) t fr) := by
  unfold World.setCell World.alloc
  congr 1
  apply Array.ext
  · simp
  · intro i h1 h2
    rw [Array.getElem_modify]
    by_cases e : w.heap.size = i
    · subst e; simp
    · rw [if_neg e]
      have hi : i < w.heap.size := by simp at h2; omega
      show (w.heap.push _)[i]'(by simp; omega) = _
      rw [Array.getElem_push_lt hi, Array.getElem_push_lt hi]

def dg (l : List UInt8) (p : Nat) : Nat := p + (Txt.dig (l.drop p)).length
theorem dg_le (l : List UInt8) {p : Nat} (h : p ≤ l.length) : p ≤ dg l p ∧ dg l p ≤ l.length := by
  unfold dg
  have := congrArg List.length (dig_rst (l.drop p))
  rw [List.length_append, List.length_drop] at this
  omega

/-- The two boxes of Read. -/
def bx (w : World) (D : ByteArray) (X : Int) : World := (w.alloc (.cells #[.string ⟨#[]⟩, .int .i64 0] 77)).alloc (.cells #[.string D, .int .i64 X] 77)
theorem bx_D (w : World) (D D' : ByteArray) (X : Int) : (bx w D X).setCell ⟨w.heap.size + 1, 0, none⟩ (.string D') = bx w D' X := by
  unfold bx
  have := set_new (w.alloc (.cells #[.string ⟨#[]⟩, .int .i64 0] 77)) #[.string D, .int .i64 X] 77 0 (0, 0) (.string D')
  rw [show (w.alloc (.cells #[.string ⟨#[]⟩, .int .i64 0] 77)).heap.size = w.heap.size + 1 by simp] at this
  exact this
theorem bx_X (w : World) (D : ByteArray) (X Y : Int) : (bx w D X).setCell ⟨w.heap.size + 1, 1, none⟩ (.int .i64 Y) = bx w D Y := by
  unfold bx
  have := set_new (w.alloc (.cells #[.string ⟨#[]⟩, .int .i64 0] 77)) #[.string D, .int .i64 X] 77 1 (0, 0) (.int .i64 Y)
  rw [show (w.alloc (.cells #[.string ⟨#[]⟩, .int .i64 0] 77)).heap.size = w.heap.size + 1 by simp] at this
  exact this

theorem dig_len (x : List UInt8) : Txt.dig x = x.take (Txt.dig x).length ∧ rst x = x.drop (Txt.dig x).length := by
  have h := dig_rst x
  generalize Txt.dig x = a at *
  generalize rst x = b at *
  subst h
  exact ⟨by rw [List.take_left], by rw [List.drop_left]⟩
theorem dig_at (l : List UInt8) (p : Nat) : Txt.dig (l.drop p) = (l.drop p).take (dg l p - p) ∧ rst (l.drop p) = l.drop (dg l p) := by
  have h := dig_len (l.drop p)
  have e : dg l p - p = (Txt.dig (l.drop p)).length := by unfold dg; omega
  rw [e]
  refine ⟨h.1, ?_⟩
  rw [h.2, List.drop_drop]; rfl
theorem dig_nil (l : List UInt8) (p : Nat) : Txt.dig (l.drop p) = [] ↔ dg l p = p := by
  unfold dg
  constructor
  · intro h; rw [h]; rfl
  · intro h; exact List.eq_nil_of_length_eq_zero (by omega)
theorem drop_cons {l : List UInt8} {p : Nat} (h : p < l.length) : l.drop p = l[p] :: l.drop (p + 1) := List.drop_eq_getElem_cons h
/-- What is read so far: up to p, the digits D and the power X. -/
def RJ (l : List UInt8) (p : Nat) (D : List UInt8) (X : Int) : Prop := p ≤ l.length ∧ -400 ≤ X ∧ X ≤ 0 ∧ numL l = (Txt.expo (l.drop p)).map fun e => (D, e + X)
theorem rj_none {l : List UInt8} (h : dg l 0 = 0) : numL l = none := by
  have := (dig_nil l 0).2 h
  unfold numL
  rw [List.drop_zero] at this
  rw [if_pos this]
theorem rj_plain {l : List UInt8} (h : dg l 0 ≠ 0) (hd : ∀ h : dg l 0 < l.length, l[dg l 0].toNat ≠ 46) : RJ l (dg l 0) (l.take (dg l 0)) 0 := by
  refine ⟨(dg_le l (Nat.zero_le _)).2, by omega, by omega, ?_⟩
  have h1 : Txt.dig l ≠ [] := fun e => h ((dig_nil l 0).1 (by rw [List.drop_zero]; exact e))
  have h2 := dig_at l 0
  rw [List.drop_zero, Nat.sub_zero] at h2
  unfold numL
  rw [if_neg h1, h2.1, h2.2]
  by_cases c : dg l 0 < l.length
  · rw [drop_cons c]
    show (if l[dg l 0].toNat = 46 then _ else _) = _
    rw [if_neg (hd c)]
    simp
  · rw [List.drop_eq_nil_of_le (by omega)]
    simp [Txt.expo]
theorem rj_dot0 {l : List UInt8} (h : dg l 0 ≠ 0) (hc : dg l 0 < l.length) (hd : l[dg l 0].toNat = 46) (h2 : dg l (dg l 0 + 1) = dg l 0 + 1) : numL l = none := by
  have h1 : Txt.dig l ≠ [] := fun e => h ((dig_nil l 0).1 (by rw [List.drop_zero]; exact e))
  have h3 := dig_at l 0
  rw [List.drop_zero, Nat.sub_zero] at h3
  unfold numL
  rw [if_neg h1, h3.2, drop_cons hc]
  show (if l[dg l 0].toNat = 46 then _ else _) = _
  rw [if_pos hd, if_pos ((dig_nil l _).2 h2)]
theorem rj_dot {l : List UInt8} (hl : l.length ≤ 400) (h : dg l 0 ≠ 0) (hc : dg l 0 < l.length) (hd : l[dg l 0].toNat = 46) (h2 : dg l (dg l 0 + 1) ≠ dg l 0 + 1) :
    RJ l (dg l (dg l 0 + 1)) (l.take (dg l 0) ++ (l.drop (dg l 0 + 1)).take (dg l (dg l 0 + 1) - (dg l 0 + 1))) ((dg l 0 : Int) + 1 - dg l (dg l 0 + 1)) := by
  have g := dg_le l (show dg l 0 + 1 ≤ l.length by omega)
  refine ⟨g.2, by omega, by omega, ?_⟩
  have h1 : Txt.dig l ≠ [] := fun e => h ((dig_nil l 0).1 (by rw [List.drop_zero]; exact e))
  have h3 := dig_at l 0
  rw [List.drop_zero, Nat.sub_zero] at h3
  have h4 := dig_at l (dg l 0 + 1)
  unfold numL
  rw [if_neg h1, h3.1, h3.2, drop_cons hc]
  show (if l[dg l 0].toNat = 46 then _ else _) = _
  rw [if_pos hd, if_neg (fun e => h2 ((dig_nil l _).1 e)), h4.1, h4.2]
  congr 1
  funext e
  rw [List.length_take, List.length_drop]
  congr 1
  omega
/-- The exponent, from q on: what is read as a sign. -/
theorem rs_end (l : List UInt8) {q : Nat} (h : l.length ≤ q) : expS (l.drop q) = none := by rw [List.drop_eq_nil_of_le h]; rfl
theorem rs_minus {l : List UInt8} {q : Nat} (h : q < l.length) (hc : l[q].toNat = 45) : expS (l.drop q) = expD true (l.drop (q + 1)) := by
  rw [drop_cons h, expS_cons, if_pos hc]
theorem rs_plus {l : List UInt8} {q : Nat} (h : q < l.length) (hc : l[q].toNat = 43) : expS (l.drop q) = expD false (l.drop (q + 1)) := by
  rw [drop_cons h, expS_cons, if_neg (by omega), if_pos hc]
theorem rs_plain {l : List UInt8} {q : Nat} (hc : ∀ h : q < l.length, l[q].toNat ≠ 45 ∧ l[q].toNat ≠ 43) : expS (l.drop q) = expD false (l.drop q) := by
  by_cases h : q < l.length
  · have := hc h
    rw [drop_cons h, expS_cons, if_neg this.1, if_neg this.2]
  · rw [List.drop_eq_nil_of_le (by omega)]
    rfl
theorem rd_none {l : List UInt8} {r : Nat} {neg : Bool} (hr : r ≤ l.length) (h : r = l.length ∨ dg l r ≠ l.length) : expD neg (l.drop r) = none := by
  unfold expD
  split
  · rfl
  · next h1 =>
    have h2 := (dig_at l r).2
    rw [h2]
    rcases h with h | h
    · exfalso
      apply h1
      rw [List.drop_eq_nil_of_le (by omega)]; rfl
    · rw [if_neg (by rw [List.drop_eq_nil_iff]; have := (dg_le l hr).2; omega)]
theorem rd_some {l : List UInt8} {r : Nat} {neg : Bool} (hr : r < l.length) (h : dg l r = l.length) : expD neg (l.drop r) = some (if neg then -(dv (l.drop r) 0 : Int) else dv (l.drop r) 0) ∧ AllD (l.drop r) := by
  have h2 := dig_at l r
  rw [h, List.take_of_length_le (by rw [List.length_drop]; omega), List.drop_length] at h2
  refine ⟨?_, by rw [← h2.1]; exact allD_take _⟩
  unfold expD
  rw [h2.1, h2.2, if_neg (by intro e; have := congrArg List.length e; rw [List.length_drop] at this; simp at this; omega), if_pos rfl]
/-- The exponent as it is held. -/
def Hd9 (x E : Int) : Prop := x = E ∨ (9000 ≤ x ∧ 9000 ≤ E ∧ x ≤ 11000) ∨ (x ≤ -9000 ∧ E ≤ -9000 ∧ -11000 ≤ x)
theorem hd9_of {e d : Nat} {X : Int} (neg : Bool) (h : min e 9999 = min d 9999) (h2 : e ≤ 9999) (hX : -400 ≤ X) (hX0 : X ≤ 0) :
    Hd9 (X + (if neg then -(e : Int) else e)) ((if neg then -(d : Int) else d) + X) ∧ -11000 ≤ X + (if neg then -(e : Int) else e) ∧ X + (if neg then -(e : Int) else e) ≤ 11000 := by
  unfold Hd9
  cases neg <;> simp <;> omega
theorem e_step {e d c : Nat} (h : min e 9999 = min d 9999) : (e < 9999 → min (10 * e + c) 9999 = min (d * 10 + c) 9999) ∧ (¬ e < 9999 → min e 9999 = min (d * 10 + c) 9999) := by omega

/-- What Read tells. -/
def RR (w : World) (l : List UInt8) (e : Ending) (w' : World) : Prop :=
  Below w.heap.size w w' ∧ ((numL l = none ∧ ∃ D X, e = .returned (.tuple #[.agg #[.string D, .int .i64 X], .bool false])) ∨
    ∃ D E x, numL l = some (D, E) ∧ Hd9 x E ∧ -11000 ≤ x ∧ x ≤ 11000 ∧ e = .returned (.tuple #[.agg #[.string (bs D), .int .i64 x], .bool true]))

end Go.Proofs.YtgbajhenmamjjaaGreatDoor

/-
  The reference's Whole, Near and Parse, walked.
-/
namespace Go.Proofs.YtgbajhenmamjjaaGreatDoor
set_option maxRecDepth 100000
open Go.RowKit Txt Dg Flo

theorem D.drew {w : World} {v : Value} {n l : Nat} (h : D w v n l) : D w.drew v n l := h

set_option maxRecDepth 100000 in
set_option maxHeartbeats 3200000 in
theorem whole_any (L : List UInt8) (w : World) (hD : AllD L) (hl : L.length ≤ 400) :
    Calls Tryz.prog 88 #[.string (bs L)] w fun e w' => ∃ v, e = .returned v ∧ D w' v (dv L 0) (dlen (dv L 0)) ∧ Below w.heap.size w w' := by
  have HG : Hid (∀ k (h : k < (bs L).size) (h2 : k < L.length), (bs L)[k]'h = L[k]) := fun k h _ => bs_get L k h
  have hsz0 := bs_size L
  have HA : Hid (AllD L) := hD
  have HLn : Hid (∀ k, dv (L.take k) 0 ≤ 10 ^ DG) := by
    intro k
    have h1 := dv_lt (L.take k) 0 (fun c hc => hD c (List.mem_of_mem_take hc))
    rw [Nat.zero_add, Nat.one_mul] at h1
    refine Nat.le_trans (Nat.le_of_lt h1) (Nat.pow_le_pow_right (by decide) ?_)
    rw [List.length_take, DG_eq]; omega
  have HR : Hid (dv (L.take L.length) 0 = dv L 0) := by show _ = _; rw [List.take_length]
  generalize bs L = s at *
  have hs2 : s.size ≤ 400 := by omega
  have HS : Hid (s.size = L.length) := hsz0
  obtain ⟨R, hR⟩ : ∃ R, R = dv L 0 := ⟨_, rfl⟩
  rw [← hR] at HR ⊢
  have hd0 := D_empty w
  have hb0 : Below w.heap.size w (w.alloc (.cells #[] 22)) := (Below.refl _ _).alloc (Nat.le_refl _) _
  clear hsz0 hD hl hR
  go_enter Tryz.func88, Tryz.ntmps88
  go_wp2_with fail
  go_loopw [3, 4] (fun t3 t4 wr => ∃ (k N : Nat), k ≤ s.size ∧ t4 = .int .i64 k ∧ D wr t3 N (dlen N) ∧ Below w.heap.size w wr ∧ Hid (N = dv (L.take k) 0)) (fun _ t4 _ => s.size - (intOf t4).toNat)
  case atStart => exact ⟨0, 0, Nat.zero_le _, rfl, hd0, hb0, rfl⟩
  case round =>
    obtain ⟨k, N, hk, rfl, hdN, hbr, HN⟩ := hrel
    by_cases hlt : k < s.size
    · have hg := HG.out k hlt (by have := HS.out; omega)
      have h48 := isD_get HA.out (k := k) (by have := HS.out; omega)
      rw [← hg] at h48
      obtain ⟨d, hd⟩ : ∃ d, d = s[k].toNat - 48 := ⟨_, rfl⟩
      have hd9 : d ≤ 9 := by omega
      have hsub : IntKind.u8.wrap ((s[k].toNat : Int) - 48) = (d : Int) := by rw [IntKind.wrap_u8]; omega
      have hsub2 : ((s[k].toNat : Int) - 48) % 256 = (d : Int) := by omega
      have hcv : IntKind.u64.wrap (d : Int) = (d : Int) := by rw [IntKind.wrap_u64]; omega
      have HNx : Hid (N * 10 + d = dv (L.take (k + 1)) 0) := by
        show _ = _
        rw [dv_take (by have := HS.out; omega), ← HN.out, ← hg, hd]
      have hlN : dlen N ≤ 101 := dlen_ten (n := DG) (by rw [HN.out]; exact HLn.out k) (by rw [DG_eq]; decide)
      have hlM : dlen (N * 10) ≤ 101 := by
        refine Nat.le_trans (dlen_mono (m := N * 10 + d) (by omega)) (dlen_ten (n := DG) (by rw [HNx.out]; exact HLn.out _) (by rw [DG_eq]; decide))
      have hsz := hbr.size
      have i1 : (k : Int) < (s.size : Int) := by omega
      have i2 : (0 : Int) ≤ (k : Int) := by omega
      have h48a : (48 : Int) ≤ (s[k].toNat : Int) := by omega
      have h48b : (s[k].toNat : Int) ≤ 57 := by omega
      clear hg h48 hd
      go_wp2_with fail
      refine wp_region_held_drew (S := fun _ => True) (by kernel_rfl) trivial (fun hHeld => ?_)
      refine wpAnyH_take (i := 0) (oi := { dst := some 12, op := _, type := _, pos := _, after := _, guard := _ }) (v := ?vvw1) rfl (by kernel_rfl) (by kernel_rfl) (by kernel_rfl) (fun _ _ _ h => h) (Or.inl ⟨by rfl, ?hyw1⟩) (by assumption) ?_
      case hyw1 =>
        intro w hSw
        (try dsimp only at hSw)
        go_simp
        try with_reducible rfl
      try simp only [Act.put, List.setIfInBounds_toArray, List.set_cons_zero, List.set_cons_succ]
      refine wpAnyH_take (i := 3) (oi := { dst := some 15, op := _, type := _, pos := _, after := _, guard := _ }) (v := ?vvw2) rfl (by kernel_rfl) (by kernel_rfl) (by kernel_rfl) (fun _ _ _ h => h) (Or.inl ⟨by rfl, ?hyw2⟩) (by assumption) ?_
      case hyw2 =>
        intro w hSw
        (try dsimp only at hSw)
        go_simp
        try with_reducible rfl
      try simp only [Act.put, List.setIfInBounds_toArray, List.set_cons_zero, List.set_cons_succ]
      refine wpAnyH_take (i := 4) (oi := { dst := some 16, op := _, type := _, pos := _, after := _, guard := _ }) (v := ?vvw3) rfl (by kernel_rfl) (by kernel_rfl) (by kernel_rfl) (fun _ _ _ h => h) (Or.inl ⟨by rfl, ?hyw3⟩) (by assumption) ?_
      case hyw3 =>
        intro w hSw
        (try dsimp only at hSw)
        go_simp
        try with_reducible rfl
      try simp only [Act.put, List.setIfInBounds_toArray, List.set_cons_zero, List.set_cons_succ]
      refine wpAnyH_take (i := 5) (oi := { dst := some 17, op := _, type := _, pos := _, after := _, guard := _ }) (v := ?vvw4) rfl (by kernel_rfl) (by kernel_rfl) (by kernel_rfl) (fun _ _ _ h => h) (Or.inl ⟨by rfl, ?hyw4⟩) (by assumption) ?_
      case hyw4 =>
        intro w hSw
        (try dsimp only at hSw)
        go_simp
        try with_reducible rfl
      try simp only [Act.put, List.setIfInBounds_toArray, List.set_cons_zero, List.set_cons_succ]
      refine wpAnyH_take (i := 6) (oi := { dst := some 18, op := _, type := _, pos := _, after := _, guard := _ }) (v := ?vvw5) rfl (by kernel_rfl) (by kernel_rfl) (by kernel_rfl) (fun _ _ _ h => h) (Or.inl ⟨by rfl, ?hyw5⟩) (by assumption) ?_
      case hyw5 =>
        intro w hSw
        (try dsimp only at hSw)
        go_simp
        try with_reducible rfl
      try simp only [Act.put, List.setIfInBounds_toArray, List.set_cons_zero, List.set_cons_succ]
      refine wpAnyH_take (i := 7) (oi := { dst := some 19, op := _, type := _, pos := _, after := _, guard := _ }) (v := ?vvw6) rfl (by kernel_rfl) (by kernel_rfl) (by kernel_rfl) (fun _ _ _ h => h) (Or.inl ⟨by rfl, ?hyw6⟩) (by assumption) ?_
      case hyw6 =>
        intro w hSw
        (try dsimp only at hSw)
        go_simp
        try with_reducible rfl
      try simp only [Act.put, List.setIfInBounds_toArray, List.set_cons_zero, List.set_cons_succ]
      refine wpAnyH_ready (rs := [1, 8]) (by kernel_rfl) (by simp) ?_
      refine AllReadyH.cons (o := { dst := some 13, op := _, type := _, pos := _, after := _, guard := _ }) rfl (fun K hK => ?_) (AllReadyH.cons (o := { dst := some 20, op := _, type := _, pos := _, after := _, guard := _ }) rfl (fun K hK => ?_) AllReadyH.nil)
      · go_simp
        have hd10 := D_one wr.drew 10 (by decide)
        have hbA := (Below.refl wr.drew.heap.size wr.drew).alloc (Nat.le_refl _) (.cells #[.int .u64 ((10 : Nat) : Int)] 22)
        have hdA := (hdN.drew).below hbA
        refine hK.out _ _ trivial (fun hHeld => ?_)
        clear hK K
        try simp only [Act.put, List.setIfInBounds_toArray, List.set_cons_zero, List.set_cons_succ]
        refine wpAnyH_ready (rs := [2, 8]) (by kernel_rfl) (by simp) ?_
        refine AllReadyH.cons (o := { dst := some 14, op := _, type := _, pos := _, after := _, guard := _ }) rfl (fun K hK => ?_) (AllReadyH.cons (o := { dst := some 20, op := _, type := _, pos := _, after := _, guard := _ }) rfl (fun K hK => ?_) AllReadyH.nil)
        · go_simp
          refine (prod_any _ _ N (dlen N) 10 1 _ (by exact hdA) (by exact hd10) (by omega) (by decide)).mono ?_
          rintro e wp ⟨vp, rfl, hdp, hbp⟩
          go_wp2_with fail
          refine hK.out _ _ trivial (fun hHeld => ?_)
          clear hK K
          try simp only [Act.put, List.setIfInBounds_toArray, List.set_cons_zero, List.set_cons_succ]
          refine wpAnyH_ready (rs := [8]) (by kernel_rfl) (by simp) ?_
          refine AllReadyH.cons (o := { dst := some 20, op := _, type := _, pos := _, after := _, guard := _ }) rfl (fun K hK => ?_) AllReadyH.nil
          go_simp
          have hdd := D_one wp d (by omega)
          have hbB := (Below.refl wp.heap.size wp).alloc (Nat.le_refl _) (.cells #[.int .u64 (d : Int)] 22)
          have hdB := hdp.below hbB
          refine hK.out _ _ trivial (fun hHeld => ?_)
          clear hK K
          try simp only [Act.put, List.setIfInBounds_toArray, List.set_cons_zero, List.set_cons_succ]
          refine wpAnyH_ready (rs := [9]) (by kernel_rfl) (by simp) ?_
          refine AllReadyH.cons (o := { dst := some 21, op := _, type := _, pos := _, after := _, guard := _ }) rfl (fun K hK => ?_) AllReadyH.nil
          go_simp
          refine (sum_any _ _ (N * 10) (dlen (N * 10)) d 1 _ (by exact hdB) (by exact hdd) (by omega) (by decide)).mono ?_
          rintro e ws ⟨vs, rfl, hds, hbs⟩
          go_wp2_with fail
          refine hK.out _ _ trivial (fun hHeld => ?_)
          clear hK K
          try simp only [Act.put, List.setIfInBounds_toArray, List.set_cons_zero, List.set_cons_succ]
          refine wpAnyH_take (i := 10) (oi := { dst := some 3, op := _, type := _, pos := _, after := _, guard := _ }) (v := ?vvw7) rfl (by kernel_rfl) (by kernel_rfl) (by kernel_rfl) (fun _ _ _ h => h) (Or.inl ⟨by rfl, ?hyw7⟩) (by assumption) ?_
          case hyw7 =>
            intro w hSw
            (try dsimp only at hSw)
            go_simp
            try with_reducible rfl
          try simp only [Act.put, List.setIfInBounds_toArray, List.set_cons_zero, List.set_cons_succ]
          refine wpAnyH_done (by kernel_rfl) ?_ _
          have HBs : Hid (D ws vs (N * 10 + d) (dlen (N * 10 + d)) ∧ Below w.heap.size w ws) := ⟨hds, (((hbr.drew.trans (hbA.mono hsz)).trans (hbp.mono (by simp; omega))).trans (hbB.mono (by have := hbp.size; simp at this; omega))).trans (hbs.mono (by have := hbp.size; simp at this ⊢; omega))⟩
          clear hds hbs hdp hbp
          go_wp2
          go_round
          case rel => exact ⟨k + 1, N * 10 + d, by omega, by go_num, HBs.out.1, HBs.out.2, HNx⟩
          case measure => simp [intOf]; omega
        · go_simp
          have hdd := D_one (wr.drew.alloc (.cells #[.int .u64 ((10 : Nat) : Int)] 22)) d (by omega)
          have hbB := (Below.refl (wr.drew.alloc (.cells #[.int .u64 ((10 : Nat) : Int)] 22)).heap.size (wr.drew.alloc (.cells #[.int .u64 ((10 : Nat) : Int)] 22))).alloc (Nat.le_refl _) (.cells #[.int .u64 (d : Int)] 22)
          have hdB := hdA.below hbB
          have hd10B := hd10.below hbB
          refine hK.out _ _ trivial (fun hHeld => ?_)
          clear hK K
          try simp only [Act.put, List.setIfInBounds_toArray, List.set_cons_zero, List.set_cons_succ]
          refine wpAnyH_ready (rs := [2]) (by kernel_rfl) (by simp) ?_
          refine AllReadyH.cons (o := { dst := some 14, op := _, type := _, pos := _, after := _, guard := _ }) rfl (fun K hK => ?_) AllReadyH.nil
          go_simp
          refine (prod_any _ _ N (dlen N) 10 1 _ (by exact hdB) (by exact hd10B) (by omega) (by decide)).mono ?_
          rintro e wp ⟨vp, rfl, hdp, hbp⟩
          have hddp := hdd.below hbp
          go_wp2_with fail
          refine hK.out _ _ trivial (fun hHeld => ?_)
          clear hK K
          try simp only [Act.put, List.setIfInBounds_toArray, List.set_cons_zero, List.set_cons_succ]
          refine wpAnyH_ready (rs := [9]) (by kernel_rfl) (by simp) ?_
          refine AllReadyH.cons (o := { dst := some 21, op := _, type := _, pos := _, after := _, guard := _ }) rfl (fun K hK => ?_) AllReadyH.nil
          go_simp
          refine (sum_any _ _ (N * 10) (dlen (N * 10)) d 1 _ (by exact hdp) (by have h10 := hddp; rw [show (wr.drew.alloc (.cells #[.int .u64 ((10 : Nat) : Int)] 22)).heap.size = wr.heap.size + 1 by simp] at h10; exact h10) (by omega) (by decide)).mono ?_
          rintro e ws ⟨vs, rfl, hds, hbs⟩
          go_wp2_with fail
          refine hK.out _ _ trivial (fun hHeld => ?_)
          clear hK K
          try simp only [Act.put, List.setIfInBounds_toArray, List.set_cons_zero, List.set_cons_succ]
          refine wpAnyH_take (i := 10) (oi := { dst := some 3, op := _, type := _, pos := _, after := _, guard := _ }) (v := ?vvw8) rfl (by kernel_rfl) (by kernel_rfl) (by kernel_rfl) (fun _ _ _ h => h) (Or.inl ⟨by rfl, ?hyw8⟩) (by assumption) ?_
          case hyw8 =>
            intro w hSw
            (try dsimp only at hSw)
            go_simp
            try with_reducible rfl
          try simp only [Act.put, List.setIfInBounds_toArray, List.set_cons_zero, List.set_cons_succ]
          refine wpAnyH_done (by kernel_rfl) ?_ _
          have HBs : Hid (D ws vs (N * 10 + d) (dlen (N * 10 + d)) ∧ Below w.heap.size w ws) := ⟨hds, (((hbr.drew.trans (hbA.mono hsz)).trans (hbB.mono (by simp; omega))).trans (hbp.mono (by simp; omega))).trans (hbs.mono (by have := hbp.size; simp at this ⊢; omega))⟩
          clear hds hbs hdp hbp
          go_wp2
          go_round
          case rel => exact ⟨k + 1, N * 10 + d, by omega, by go_num, HBs.out.1, HBs.out.2, HNx⟩
          case measure => simp [intOf]; omega
      · go_simp
        have hdd := D_one wr.drew d (by omega)
        have hbA := (Below.refl wr.drew.heap.size wr.drew).alloc (Nat.le_refl _) (.cells #[.int .u64 (d : Int)] 22)
        have hdA := (hdN.drew).below hbA
        refine hK.out _ _ trivial (fun hHeld => ?_)
        clear hK K
        try simp only [Act.put, List.setIfInBounds_toArray, List.set_cons_zero, List.set_cons_succ]
        refine wpAnyH_ready (rs := [1]) (by kernel_rfl) (by simp) ?_
        refine AllReadyH.cons (o := { dst := some 13, op := _, type := _, pos := _, after := _, guard := _ }) rfl (fun K hK => ?_) AllReadyH.nil
        go_simp
        have hd10 := D_one (wr.drew.alloc (.cells #[.int .u64 (d : Int)] 22)) 10 (by decide)
        have hbB := (Below.refl (wr.drew.alloc (.cells #[.int .u64 (d : Int)] 22)).heap.size (wr.drew.alloc (.cells #[.int .u64 (d : Int)] 22))).alloc (Nat.le_refl _) (.cells #[.int .u64 ((10 : Nat) : Int)] 22)
        have hdB := hdA.below hbB
        have hddB := hdd.below hbB
        refine hK.out _ _ trivial (fun hHeld => ?_)
        clear hK K
        try simp only [Act.put, List.setIfInBounds_toArray, List.set_cons_zero, List.set_cons_succ]
        refine wpAnyH_ready (rs := [2]) (by kernel_rfl) (by simp) ?_
        refine AllReadyH.cons (o := { dst := some 14, op := _, type := _, pos := _, after := _, guard := _ }) rfl (fun K hK => ?_) AllReadyH.nil
        go_simp
        refine (prod_any _ _ N (dlen N) 10 1 _ (by exact hdB) (by have h10 := hd10; rw [show (wr.drew.alloc (.cells #[.int .u64 (d : Int)] 22)).heap.size = wr.heap.size + 1 by simp] at h10; exact h10) (by omega) (by decide)).mono ?_
        rintro e wp ⟨vp, rfl, hdp, hbp⟩
        have hddp := hddB.below hbp
        go_wp2_with fail
        refine hK.out _ _ trivial (fun hHeld => ?_)
        clear hK K
        try simp only [Act.put, List.setIfInBounds_toArray, List.set_cons_zero, List.set_cons_succ]
        refine wpAnyH_ready (rs := [9]) (by kernel_rfl) (by simp) ?_
        refine AllReadyH.cons (o := { dst := some 21, op := _, type := _, pos := _, after := _, guard := _ }) rfl (fun K hK => ?_) AllReadyH.nil
        go_simp
        refine (sum_any _ _ (N * 10) (dlen (N * 10)) d 1 _ (by exact hdp) (by exact hddp) (by omega) (by decide)).mono ?_
        rintro e ws ⟨vs, rfl, hds, hbs⟩
        go_wp2_with fail
        refine hK.out _ _ trivial (fun hHeld => ?_)
        clear hK K
        try simp only [Act.put, List.setIfInBounds_toArray, List.set_cons_zero, List.set_cons_succ]
        refine wpAnyH_take (i := 10) (oi := { dst := some 3, op := _, type := _, pos := _, after := _, guard := _ }) (v := ?vvw9) rfl (by kernel_rfl) (by kernel_rfl) (by kernel_rfl) (fun _ _ _ h => h) (Or.inl ⟨by rfl, ?hyw9⟩) (by assumption) ?_
        case hyw9 =>
          intro w hSw
          (try dsimp only at hSw)
          go_simp
          try with_reducible rfl
        try simp only [Act.put, List.setIfInBounds_toArray, List.set_cons_zero, List.set_cons_succ]
        refine wpAnyH_done (by kernel_rfl) ?_ _
        have HBs : Hid (D ws vs (N * 10 + d) (dlen (N * 10 + d)) ∧ Below w.heap.size w ws) := ⟨hds, (((hbr.drew.trans (hbA.mono hsz)).trans (hbB.mono (by simp; omega))).trans (hbp.mono (by simp; omega))).trans (hbs.mono (by have := hbp.size; simp at this ⊢; omega))⟩
        clear hds hbs hdp hbp
        go_wp2
        go_round
        case rel => exact ⟨k + 1, N * 10 + d, by omega, by go_num, HBs.out.1, HBs.out.2, HNx⟩
        case measure => simp [intOf]; omega
    · have e : k = s.size := by omega
      have HQ : Hid (D wr u3 R (dlen R) ∧ Below w.heap.size w wr) := by
        have e2 := HN.out
        rw [e, HS.out, HR.out] at e2
        rw [← e2]
        exact ⟨hdN, hbr⟩
      clear HN hdN
      go_wp2
      go_ret
      exact ⟨_, rfl, HQ.out⟩

end Go.Proofs.YtgbajhenmamjjaaGreatDoor
