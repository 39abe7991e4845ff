/-
  PrtLives, DigDivide, RfNear2, NgMath, PsMath, PsMath2
-/
import Derived.Lib.ItoaNum
import Derived.Test.YtjbnjfdpfkdmeaaDoorZ20

/-
  15, printed; and whether a numeral is read and written.
-/
namespace Go.Proofs.YtjbnjfdpfkdmeaaDoor
set_option maxRecDepth 100000
open Go.RowKit Pt Flo

theorem short15 (w : World) : Calls Tryd.prog 11 #[.int .i64 (-49), .int .u64 8444249301319680] w fun e w' => e = .returned (.tuple #[.string (Txt.bs [49, 53]), .int .i64 1]) ∧ Below w.heap.size w w' := by
  have h := shortest_low (-49) 8444249301319680 53 1 0 2 100 51 true [1, 5] w (by decide) (by decide) (by decide) (by decide) (by show _ = _; decide) (by decide +kernel) (by decide) (by decide) (-1) (by decide) (by decide) (by decide) (by decide) (by decide)
    (by show _ ∧ _; decide +kernel) (by
      refine ⟨by decide +kernel, ?_⟩
      intro j hj
      have : j = 0 ∨ j = 1 := by omega
      rcases this with rfl | rfl <;> decide +kernel) 1 (by show _ = _; rfl) (by decide) (by
      intro j
      rcases j with _ | _ | j
      · decide
      · decide
      · simp) (by decide) (by decide) (by show _ = _; decide +kernel)
  have e : Txt.bs (dtx [1, 5]) = Txt.bs [49, 53] := by decide
  rw [e] at h
  exact h

set_option maxHeartbeats 1000000 in
theorem print15 (w : World) : Calls Tryd.prog 6 #[.int .u64 4624633867356078080] w fun e w' => e = .returned (.string (Txt.bs [49, 53])) ∧ Below w.heap.size w w' := by
  have HPa : Hid (∀ w, Calls Tryd.prog 9 #[.int .u64 4624633867356078080] w fun e w' => e = .returned (.tuple #[.bool false, .int .i64 (-49), .int .u64 8444249301319680]) ∧ w' = w) := fun w => parts_any 4624633867356078080 w ⟨by decide, by decide⟩
  have HKi : Hid (∀ w, Calls Tryd.prog 10 #[.int .u64 4624633867356078080] w fun e w' => e = .returned (.int .i64 2) ∧ w' = w) := fun w => kind_any 4624633867356078080 w ⟨by decide, by decide⟩
  have HLa : Hid (∀ w, Calls Tryd.prog 12 #[.string (Txt.bs [49, 53]), .int .i64 1] w fun e w' => e = .returned (.string (Txt.bs [49, 53])) ∧ w' = w) := fun w => laidOut_same (Txt.bs [49, 53]) 1 w (by decide) (by decide)
  have hcat : (⟨#[]⟩ : ByteArray) ++ Txt.bs [49, 53] = Txt.bs [49, 53] := by decide
  have hsz : (Txt.bs [49, 53]).size = 2 := by decide
  have HS : Hid (∀ w, Calls Tryd.prog 11 #[.int .i64 (-49), .int .u64 8444249301319680] w fun e w' => e = .returned (.tuple #[.string (Txt.bs [49, 53]), .int .i64 1]) ∧ Below w.heap.size w w') := short15
  generalize Txt.bs [49, 53] = s at *
  go_enter Tryd.func6, Tryd.ntmps6
  go_wp2_with fail
  refine (HPa.out _).mono ?_
  rintro e w' ⟨rfl, hw⟩
  rw [hw]
  clear hw w'
  go_wp2_with fail
  refine (HKi.out _).mono ?_
  rintro e w' ⟨rfl, hw⟩
  rw [hw]
  clear hw w'
  go_wp2_with fail
  refine (HS.out _).mono ?_
  rintro e w1 ⟨rfl, hb1⟩
  go_wp2_with fail
  refine (HLa.out _).mono ?_
  rintro e w' ⟨rfl, rfl⟩
  go_wp2
  go_ret
  exact ⟨by first | rfl | simp [hcat], hb1⟩

theorem near15 : nearR 150 10 = 4624633867356078080 := by
  rw [← near_bits (A := 150) (B := 10) (k := 53) (by decide) (by decide) (by decide +kernel)]
  decide +kernel
theorem num15 : Txt.numL [49, 46, 53, 48, 101, 49] = some ([49, 53, 48], -1) := by decide +kernel
theorem parse15 : parseW [49, 46, 53, 48, 101, 49] = (4624633867356078080, 0) := by
  rw [parseW_some (by decide) num15]
  have e0 : Txt.dv [49, 53, 48] 0 = 150 := by decide
  have e : decN 150 (-1) = nearR 150 10 := by unfold decN; rw [if_neg (by decide), show (-(-1 : Int)).toNat = 1 from rfl, Nat.pow_one]
  rw [e0, e, near15]

set_option maxHeartbeats 1000000 in
theorem decLives_any (w : World) : Calls Tryd.prog 5 #[] w fun e w' => e = .returned (.bool true) ∧ Below w.heap.size w w' := by
  have HPa : Hid (∀ w, Calls Tryd.prog 7 #[.string ⟨#[49, 46, 53, 48, 101, 49]⟩] w fun e w' => e = .returned (.tuple #[.int .u64 4624633867356078080, .int .i64 0]) ∧ Below w.heap.size w w') := fun w => by
    have h := parse_any [49, 46, 53, 48, 101, 49] w (by unfold maxLen; decide)
    rw [parse15] at h
    exact h
  have HPr : Hid (∀ w, Calls Tryd.prog 6 #[.int .u64 4624633867356078080] w fun e w' => e = .returned (.string ⟨#[49, 53]⟩) ∧ Below w.heap.size w w') := print15
  go_enter Tryd.func5, Tryd.ntmps5
  go_wp2_with fail
  refine (HPa.out _).mono ?_
  rintro e w1 ⟨rfl, hb1⟩
  go_wp2_with fail
  refine (HPr.out _).mono ?_
  rintro e w2 ⟨rfl, hb2⟩
  go_wp2
  go_ret
  exact ⟨rfl, hb1.trans (hb2.mono hb1.size)⟩

end Go.Proofs.YtjbnjfdpfkdmeaaDoor

/-
  The reference's Divide: quotient and rest, bit by bit.
-/
namespace Go.Proofs.YtjbnjfdpfkdmeaaDoor
set_option maxRecDepth 100000
open Go.RowKit Dg

theorem Row.below {w w' : World} {B N : Nat} {os : List Nat} (h : Row w B N os) (hb : Below w.heap.size w w') : Row w' B N os := by
  obtain ⟨h1, h2, h3⟩ := h
  refine ⟨h1, h2, h3.1, ?_⟩
  rcases h3.2 with hn | ⟨g, cap, cur, e, h0, hg, rest⟩
  · exact .inl hn
  · refine .inr ⟨g, cap, cur, e, h0, ?_, rest⟩
    rw [hb.block g (Array.getElem?_eq_some_iff.1 hg).1]
    exact hg
/-- A store into another block leaves digits as they were. -/
theorem D.stored {w : World} {v : Value} {n l B j : Nat} (h : D w v n l) (hf : Fresh (B + 1) v) (u : Value) : D (w.setCell ⟨B, j, none⟩ u) v n l := by
  obtain ⟨ds, g, cap, rfl, h2, h3, h4, h5⟩ := h
  refine ⟨ds, g, cap, rfl, h2, h3, h4, h5.1, ?_⟩
  have hg := hf g rfl
  rcases h5.2 with hn | ⟨g', cap', cur, e, h0, hg', rest⟩
  · exact .inl hn
  · refine .inr ⟨g', cap', cur, e, h0, ?_, rest⟩
    have : g' = g := by simp at e; exact e.1.symm
    subst this
    rw [Below.heap_setCell _ _ _ _ (by show g' ≠ B; omega)]
    exact hg'
theorem bit_split (N t : Nat) : N / 2 ^ t = 2 * (N / 2 ^ (t + 1)) + N / 2 ^ t % 2 := by
  rw [Nat.pow_succ, ← Nat.div_div_eq_div_mul]; omega
theorem or_bit {x r : Nat} (h : x % 2 ^ (r + 1) = 0) : x ||| 2 ^ r = x + 2 ^ r := nat_join (r + 1) x (2 ^ r) h (Nat.pow_lt_pow_right (by decide) (by omega))

/-- The digit that a quotient's next bit goes into. -/
theorem quo_digit {os : List Nat} {q t s r : Nat} (hs : Small16 os) (hv : val os = q * 2 ^ (t + 1)) (ht : t = 16 * s + r) (hr : r < 16) (hl : s < os.length) :
    os.getD s 0 ||| 2 ^ r = os.getD s 0 + 2 ^ r ∧ os.getD s 0 + 2 ^ r < 65536 ∧ val (os.set s (os.getD s 0 + 2 ^ r)) = (2 * q + 1) * 2 ^ t := by
  have e0 : os.getD s 0 = dig (val os) s := val_dig os s hs
  have e1 : 2 ^ (t + 1) = 65536 ^ s * 2 ^ (r + 1) := by rw [pow16, ← Nat.pow_add]; congr 1; omega
  have e2 : val os / 65536 ^ s = q * 2 ^ (r + 1) := by
    rw [hv, e1, show q * (65536 ^ s * 2 ^ (r + 1)) = (q * 2 ^ (r + 1)) * 65536 ^ s by grind, Nat.mul_div_cancel _ (Nat.pow_pos (by decide))]
  have e3 : os.getD s 0 % 2 ^ (r + 1) = 0 := by
    rw [e0]; unfold dig
    rw [e2]
    have : (65536 : Nat) = 2 ^ (r + 1) * 2 ^ (15 - r) := by rw [← Nat.pow_add, show r + 1 + (15 - r) = 16 by omega]
    rw [this, Nat.mod_mul_right_mod, Nat.mul_mod_left]
  have h16 : os.getD s 0 < 65536 := by rw [e0]; exact dig_lt _ _
  have e4 : os.getD s 0 + 2 ^ r < 65536 := by
    have : (65536 : Nat) = 2 ^ (r + 1) * 2 ^ (15 - r) := by rw [← Nat.pow_add, show r + 1 + (15 - r) = 16 by omega]
    have hd := Nat.div_add_mod (os.getD s 0) (2 ^ (r + 1))
    rw [e3, Nat.add_zero] at hd
    have hp := Nat.two_pow_pos r
    have e5 : 2 ^ (r + 1) = 2 * 2 ^ r := Nat.pow_succ'
    have hlt : os.getD s 0 / 2 ^ (r + 1) < 2 ^ (15 - r) := by
      rw [Nat.div_lt_iff_lt_mul (Nat.two_pow_pos _), Nat.mul_comm, ← this]; exact h16
    have := Nat.mul_le_mul_left (2 ^ (r + 1)) (show os.getD s 0 / 2 ^ (r + 1) + 1 ≤ 2 ^ (15 - r) by omega)
    rw [Nat.mul_add, Nat.mul_one] at this
    omega
  refine ⟨or_bit e3, e4, ?_⟩
  have h := val_set os s (os.getD s 0 + 2 ^ r) hl
  rw [Nat.add_mul] at h
  have e6 : 2 ^ r * 65536 ^ s = 2 ^ t := by rw [pow16, ← Nat.pow_add]; congr 1; omega
  have e7 : (2 * q + 1) * 2 ^ t = q * 2 ^ (t + 1) + 2 ^ t := by rw [Nat.pow_succ]; grind
  rw [e7, ← hv]
  omega

theorem div_low {q m R b t N V : Nat} (h : N = 2 * (q * m + R) + b) (hv : V = q * 2 ^ (t + 1)) : N = (2 * q) * m + (R * 2 ^ 1 + b) ∧ V = (2 * q) * 2 ^ t := by
  rw [h, hv, Nat.pow_succ]
  constructor <;> grind
theorem div_high {q m R b N : Nat} (h : N = 2 * (q * m + R) + b) (hm : m ≤ R * 2 ^ 1 + b) : N = (2 * q + 1) * m + (R * 2 ^ 1 + b - m) := by
  rw [h, Nat.add_mul, Nat.one_mul, Nat.mul_assoc]
  omega

end Go.Proofs.YtjbnjfdpfkdmeaaDoor

/-
  The reference's Near and Parse, walked.
-/
namespace Go.Proofs.YtjbnjfdpfkdmeaaDoor
set_option maxRecDepth 100000
open Go.RowKit Txt Dg Flo

theorem cells_at5 (w : World) (cs : Array Value) (t j : Nat) {u : Value} (h : cs[j]? = some u) : (w.alloc (.cells cs t)).cell? ⟨w.heap.size, j, none⟩ = some u := by
  unfold World.cell?
  rw [heap_alloc_new]
  exact h
theorem near_up (M : Nat) : sgn false + ((rung 0 ((2 * M + false.toNat) * 2 ^ ((0 : Int) + 1073 + ((0 : Nat) : Int)).toNat) : Nat) : Int) = ((rung 0 (M * 2 ^ OP) : Nat) : Int) := by
  have e : ((0 : Int) + 1073 + ((0 : Nat) : Int)).toNat = OP - 1 := by rw [OP_eq]; rfl
  have hO : OP = OP - 1 + 1 := by rw [OP_eq]
  have e2 : (2 * M + false.toNat) * 2 ^ (OP - 1) = M * 2 ^ OP := by
    conv => rhs; rw [hO, Nat.pow_succ]
    show (2 * M + 0) * 2 ^ (OP - 1) = _
    rw [Nat.add_zero, Nat.mul_comm 2 M, Nat.mul_assoc, Nat.mul_comm 2]
  rw [e, e2]
  unfold sgn
  simp
theorem near_down {N T U : Nat} {more : Bool} (hN : N ≠ 0) (hT : 0 < T) (hq : 9007199254740992 ≤ N * 2 ^ U / T) (hm : more = decide (N * 2 ^ U % T ≠ 0)) :
    sgn false + ((rung U ((2 * (N * 2 ^ U / T) + more.toNat) * 2 ^ (-(U : Int) + 1073 + (U : Int)).toNat) : Nat) : Int) = ((nearR N T : Nat) : Int) := by
  have e : (-(U : Int) + 1073 + (U : Int)).toNat = OP - 1 := by rw [OP_eq]; omega
  have e2 : 2 * (N * 2 ^ U / T) + more.toNat = stick N T U := by
    unfold stick
    rw [hm]
    by_cases c : N * 2 ^ U % T = 0
    · rw [if_pos c, decide_eq_false (by simpa using c)]; rfl
    · rw [if_neg c, decide_eq_true c]; rfl
  rw [e, e2, near_bits hN hT hq]
  unfold sgn
  simp
theorem near_enough {N T U : Nat} (hN : N ≠ 0) (hT : 0 < T) (hU : blen T + 70 - blen N ≤ U) : 9007199254740992 ≤ N * 2 ^ U / T := by
  rw [Nat.le_div_iff_mul_le hT]
  have h1 := blen_lt T
  have h2 := blen_ge hN
  have h3 : 9007199254740992 * T ≤ 2 ^ 53 * 2 ^ blen T := Nat.mul_le_mul (by decide) (Nat.le_of_lt h1)
  rw [← Nat.pow_add] at h3
  have h4 : 2 ^ blen N * 2 ^ U ≤ 2 * N * 2 ^ U := Nat.mul_le_mul_right _ h2
  rw [← Nat.pow_add, Nat.mul_assoc] at h4
  have h5 : (2 : Nat) ^ (53 + blen T + 1) ≤ 2 ^ (blen N + U) := Nat.pow_le_pow_right (by decide) (by omega)
  rw [Nat.pow_succ] at h5
  omega
theorem dlen_dec {n : Nat} : decide (0 < dlen n) = decide (n ≠ 0) := by
  unfold dlen
  by_cases c : n = 0
  · rw [if_pos c, c]; rfl
  · rw [if_neg c, decide_eq_true c]; apply decide_eq_true; omega
theorem dlen_ne {n : Nat} (h : n ≠ 0) : dlen n ≠ 0 := by
  unfold dlen; rw [if_neg h]; omega

theorem hd9_dec {N : Nat} {x E : Int} (hN : N < 10 ^ DG) (h : Hd9 x E) : decN N x = decN N E := by
  by_cases h0 : N = 0
  · subst h0; rw [decN_zero, decN_zero]
  · rcases h with h | h | h
    · rw [h]
    · rw [dec_huge h0 (by omega), dec_huge h0 (by omega)]
    · rw [dec_tiny hN (by omega), dec_tiny hN (by omega)]

end Go.Proofs.YtjbnjfdpfkdmeaaDoor

/-
  Noughts behind digits: the mathematics of DecNoughts.
-/
namespace Go.Proofs.YtjbnjfdpfkdmeaaDoor
set_option maxRecDepth 100000
open Go.RowKit Txt Flo

theorem dig_app {S X : List UInt8} (hS : AllD S) (hX : X = [] ∨ ∃ c r, X = c :: r ∧ isD c = false) : Txt.dig (S ++ X) = S ∧ rst (S ++ X) = X := by
  induction S with
  | nil =>
    rcases hX with rfl | ⟨c, r, rfl, hc⟩
    · exact ⟨rfl, rfl⟩
    · refine ⟨?_, ?_⟩
      · show (c :: r).takeWhile isD = []
        rw [List.takeWhile_cons, hc]; rfl
      · show (c :: r).dropWhile isD = c :: r
        rw [List.dropWhile_cons, hc]; rfl
  | cons a S ih =>
    have ha := hS a (by simp)
    have := ih (fun c hc => hS c (by simp [hc]))
    refine ⟨?_, ?_⟩
    · show (a :: (S ++ X)).takeWhile isD = a :: S
      rw [List.takeWhile_cons, ha, if_pos rfl]
      exact congrArg _ this.1
    · show (a :: (S ++ X)).dropWhile isD = X
      rw [List.dropWhile_cons, ha, if_pos rfl]
      exact this.2
theorem numL_dot {S U R : List UInt8} {e : Int} (hS : AllD S) (hS0 : S ≠ []) (hU : AllD U) (hU0 : U ≠ []) (hR : R = [] ∨ ∃ c r, R = c :: r ∧ isD c = false) (he : Txt.expo R = some e) : numL (S ++ 46 :: (U ++ R)) = some (S ++ U, e - U.length) := by
  have h1 := dig_app (X := 46 :: (U ++ R)) hS (Or.inr ⟨46, _, rfl, rfl⟩)
  have h2 := dig_app hU hR
  unfold numL
  rw [h1.1, h1.2, if_neg hS0]
  show (if (46 : UInt8).toNat = 46 then _ else _) = _
  rw [if_pos (show (46 : UInt8).toNat = 46 from rfl), h2.1, h2.2, if_neg hU0, he]
  rfl
theorem expo_nil : Txt.expo [] = some 0 := rfl
theorem expo_e0 : Txt.expo [101, 48] = some 0 := by decide
theorem dv_zeros (L : List UInt8) (k : Nat) : dv (L ++ List.replicate k 48) 0 = dv L 0 * 10 ^ k := by
  induction k with
  | zero => simp
  | succ k ih =>
    rw [List.replicate_succ', ← List.append_assoc, dv_snoc, ih, Nat.pow_succ, Nat.mul_assoc]
    rfl
theorem allD_zeros (k : Nat) : AllD (List.replicate k 48) := by
  intro c hc
  rw [List.eq_of_mem_replicate hc]
  rfl
theorem allD_app {A B : List UInt8} (hA : AllD A) (hB : AllD B) : AllD (A ++ B) := by
  intro c hc
  rcases List.mem_append.1 hc with h | h
  · exact hA c h
  · exact hB c h
theorem nearR_scale {A B c : Nat} (hB : 0 < B) (hc : 0 < c) : nearR (A * c) (B * c) = nearR A B := by
  by_cases hA : A = 0
  · subst hA; rw [Nat.zero_mul]; unfold nearR; rw [if_pos rfl, if_pos rfl]
  · have hAc : A * c ≠ 0 := Nat.mul_ne_zero hA (by omega)
    have hBc : 0 < B * c := Nat.mul_pos hB hc
    have h1 := enough hAc hBc
    generalize KN (B * c) = K at h1
    have e1 : A * c * 2 ^ K = A * 2 ^ K * c := by rw [Nat.mul_right_comm]
    have e2 : A * c * 2 ^ K / (B * c) = A * 2 ^ K / B := by rw [e1, Nat.mul_div_mul_right _ _ hc]
    have e3 : A * c * 2 ^ K % (B * c) = A * 2 ^ K % B * c := by rw [e1, Nat.mul_mod_mul_right]
    have e4 : stick (A * c) (B * c) K = stick A B K := by
      unfold stick
      rw [e2, e3]
      by_cases z : A * 2 ^ K % B = 0
      · rw [z, Nat.zero_mul, if_pos rfl]
      · rw [if_neg z, if_neg (Nat.mul_ne_zero z (by omega))]
    rw [← near_bits hAc hBc h1, ← near_bits (k := K) hA hB (by rw [← e2]; exact h1), e4]
theorem decN_noughts (M m k : Nat) (hm : 0 < m) : decN (M * 10 ^ k) (-((m + k : Nat) : Int)) = decN M (-(m : Int)) := by
  unfold decN
  rw [if_neg (by omega), if_neg (by omega), show (- -((m + k : Nat) : Int)).toNat = m + k by omega, show (- -(m : Int)).toNat = m by omega, Nat.pow_add]
  exact nearR_scale (Nat.pow_pos (by decide)) (Nat.pow_pos (by decide))
/-- What is parsed. -/
theorem parse_noughts {S T R : List UInt8} (k : Nat) (hS : AllD S) (hS0 : S ≠ []) (hT : AllD T) (hT0 : T ≠ []) (hR : R = [] ∨ ∃ c r, R = c :: r ∧ isD c = false) (he : Txt.expo R = some 0) (hl : S.length + T.length + k + R.length + 1 ≤ 400) :
    parseW (S ++ 46 :: (T ++ List.replicate k 48 ++ R)) = (decN (dv (S ++ T) 0) (-(T.length : Int)), 0) := by
  have hU0 : T ++ List.replicate k 48 ≠ [] := fun e => hT0 (List.append_eq_nil_iff.1 e).1
  have h1 := numL_dot (S := S) (U := T ++ List.replicate k 48) (R := R) hS hS0 (allD_app hT (allD_zeros k)) hU0 hR he
  have h2 := parseW_some (by simp; omega) h1
  rw [h2, ← List.append_assoc, dv_zeros]
  have hTl : 0 < T.length := List.length_pos_iff.2 hT0
  have e : (0 : Int) - (((T ++ List.replicate k 48).length : Nat) : Int) = -((T.length + k : Nat) : Int) := by rw [List.length_append, List.length_replicate]; omega
  rw [e, decN_noughts _ _ _ hTl]

end Go.Proofs.YtjbnjfdpfkdmeaaDoor

/-
  Layer 5: the fewest digits that tell a number: which numerals are read as it; digits told one by one.
-/
namespace Go.Proofs.YtjbnjfdpfkdmeaaDoor
set_option maxRecDepth 100000
open Go.RowKit Flo

/-- Which is rounded above f. -/
theorem rne_gt (v d f : Nat) : f < rne v d ↔ ((2 * f + 1) * 2 ^ d < 2 * v ∨ ((2 * f + 1) * 2 ^ d = 2 * v ∧ f % 2 = 1)) := by
  have hp : 0 < 2 ^ d := Nat.two_pow_pos d
  have ev := Nat.div_add_mod v (2 ^ d)
  have hr := Nat.mod_lt v hp
  unfold rne
  generalize v / 2 ^ d = q at *
  generalize v % 2 ^ d = r at *
  generalize 2 ^ d = P at *
  have e1 : (2 * f + 1) * P = 2 * (P * f) + P := by grind
  rw [e1, ← ev]
  rcases Nat.lt_trichotomy q f with c | c | c
  · have : P * (q + 1) ≤ P * f := Nat.mul_le_mul_left _ c
    rw [Nat.mul_add, Nat.mul_one] at this
    constructor
    · intro h; split at h <;> omega
    · intro h; omega
  · subst c
    constructor
    · intro h
      split at h
      · omega
      · omega
    · intro h
      rw [if_pos (by omega)]; omega
  · have : P * (f + 1) ≤ P * q := Nat.mul_le_mul_left _ c
    rw [Nat.mul_add, Nat.mul_one] at this
    constructor
    · intro _; left; omega
    · intro _; omega
/-- Which is nearest to a number above that of the rung d and the fraction f. -/
theorem rung_gt {g v d f : Nat} (hf : f < 9007199254740992) (hd : d = 0 ∨ 4503599627370496 ≤ f) (hd2 : d ≤ 2045) :
    d * 4503599627370496 + f < rung g v ↔ ((2 * f + 1) * 2 ^ (g + d) < 2 * v ∨ ((2 * f + 1) * 2 ^ (g + d) = 2 * v ∧ f % 2 = 1)) := by
  obtain ⟨s1, s2, s3⟩ := lowest_spec g v
  unfold rung
  have hmin : d * 4503599627370496 + f < min ((lowest g v - g) * 4503599627370496 + rne v (lowest g v)) 9218868437227405312 ↔ d * 4503599627370496 + f < (lowest g v - g) * 4503599627370496 + rne v (lowest g v) := by
    omega
  rw [hmin]
  clear hmin
  generalize lowest g v = l at *
  rcases Nat.lt_trichotomy (l - g) d with c | c | c
  · have hfd : 4503599627370496 ≤ f := by omega
    have h1 := rne_le s2
    have h2 : 2 ^ (l + 53) ≤ 2 ^ (g + d + 52) := Nat.pow_le_pow_right (by decide) (by omega)
    have h3 : 2 ^ (g + d + 52) = 4503599627370496 * 2 ^ (g + d) := by rw [Nat.pow_add, Nat.mul_comm]
    have h4 : 4503599627370496 * 2 ^ (g + d) ≤ f * 2 ^ (g + d) := Nat.mul_le_mul_right _ hfd
    have h5 : (2 * f + 1) * 2 ^ (g + d) = 2 * (f * 2 ^ (g + d)) + 2 ^ (g + d) := by rw [Nat.add_mul, Nat.one_mul, Nat.mul_assoc]
    have h6 := Nat.two_pow_pos (g + d)
    rw [h5]
    constructor
    · intro h; omega
    · intro h; omega
  · have e : l = g + d := by omega
    subst e
    rw [← rne_gt]
    omega
  · have h1 := rne_ge (s3 (by omega))
    have h2 : 2 ^ (g + d + 53) ≤ 2 ^ (l + 52) := Nat.pow_le_pow_right (by decide) (by omega)
    have h3 : 2 ^ (g + d + 53) = 9007199254740992 * 2 ^ (g + d) := by rw [Nat.pow_add, Nat.mul_comm]
    have h4 : (f + 1) * 2 ^ (g + d) ≤ 9007199254740992 * 2 ^ (g + d) := Nat.mul_le_mul_right _ hf
    have h5 : (2 * f + 1) * 2 ^ (g + d) = 2 * (f * 2 ^ (g + d)) + 2 ^ (g + d) := by rw [Nat.add_mul, Nat.one_mul, Nat.mul_assoc]
    have h6 := Nat.two_pow_pos (g + d)
    have h7 := s3 (by omega)
    rw [Nat.add_mul, Nat.one_mul] at h4
    rw [h5]
    constructor
    · intro _; left; omega
    · intro _; omega
/-- The same of a quotient. -/
theorem nearR_gt {A B d f : Nat} (hB : 0 < B) (hf : f < 9007199254740992) (hd : d = 0 ∨ 4503599627370496 ≤ f) (hd2 : d ≤ 2045) :
    d * 4503599627370496 + f < nearR A B ↔ ((2 * f + 1) * 2 ^ d * B < A * 2 ^ (OP + 1) ∨ ((2 * f + 1) * 2 ^ d * B = A * 2 ^ (OP + 1) ∧ f % 2 = 1)) := by
  have hpos : 0 < (2 * f + 1) * 2 ^ d * B := Nat.mul_pos (Nat.mul_pos (by omega) (Nat.two_pow_pos d)) hB
  unfold nearR
  split
  · next h => subst h; rw [Nat.zero_mul]; omega
  · rw [rung_gt hf hd hd2]
    have hK : OP + 1 + (KN B - OP - 1) = KN B := by unfold KN; omega
    have hg : KN B + 1 - OP + d = 2 + (d + (KN B - OP - 1)) := by unfold KN; omega
    have hKp := Nat.two_pow_pos (KN B - OP - 1)
    rw [hg]
    have e2 : A * 2 ^ KN B = A * 2 ^ (OP + 1) * 2 ^ (KN B - OP - 1) := by rw [Nat.mul_assoc, ← Nat.pow_add, hK]
    have e3 : (2 * f + 1) * 2 ^ (2 + (d + (KN B - OP - 1))) = 4 * ((2 * f + 1) * 2 ^ d * 2 ^ (KN B - OP - 1)) := by
      rw [Nat.pow_add, Nat.pow_add]; grind
    unfold stick
    rw [e2, e3]
    generalize A * 2 ^ (OP + 1) = X at *
    generalize 2 ^ (KN B - OP - 1) = Z at *
    generalize (2 * f + 1) * 2 ^ d = M at *
    clear hK hg e2 e3
    have hN := Nat.div_add_mod (X * Z) B
    have hr := Nat.mod_lt (X * Z) hB
    have i1 : M * B < X ↔ M * Z * B < X * Z := by rw [show M * Z * B = M * B * Z by grind]; exact (Nat.mul_lt_mul_right hKp).symm
    have i2 : M * B = X ↔ M * Z * B = X * Z := by
      rw [show M * Z * B = M * B * Z by grind]
      exact ⟨fun k => by rw [k], fun k => Nat.eq_of_mul_eq_mul_right hKp k⟩
    rw [i1, i2]
    generalize M * Z = m at *
    generalize X * Z / B = q at *
    generalize X * Z % B = r at *
    generalize X * Z = Y at *
    rw [← hN, Nat.mul_comm m B]
    rcases Nat.lt_trichotomy m q with c | c | c
    · have : B * (m + 1) ≤ B * q := Nat.mul_le_mul_left _ c
      rw [Nat.mul_add, Nat.mul_one] at this
      constructor
      · intro _; left; omega
      · intro _; left; split <;> omega
    · subst c
      split <;> constructor <;> intro h <;> omega
    · have : B * (q + 1) ≤ B * m := Nat.mul_le_mul_left _ c
      rw [Nat.mul_add, Nat.mul_one] at this
      constructor
      · intro h; split at h <;> omega
      · intro h; omega
/-- The number of a numeral, by any two powers of ten. -/
theorem decN_pair (Q a b : Nat) (E : Int) (hE : E = (a : Int) - b) : decN Q E = nearR (Q * 10 ^ a) (10 ^ b) := by
  subst hE
  unfold decN
  rcases Nat.le_total b a with h | h
  · obtain ⟨t, rfl⟩ := Nat.exists_eq_add_of_le h
    rw [if_pos (by omega), show ((((b + t : Nat) : Int)) - (b : Int)).toNat = t by omega, Nat.pow_add, Nat.mul_comm (10 ^ b), ← Nat.mul_assoc]
    have := nearR_scale (A := Q * 10 ^ t) (B := 1) (c := 10 ^ b) (by decide) (Nat.pow_pos (by decide))
    rw [Nat.one_mul] at this
    rw [this]
  · obtain ⟨t, rfl⟩ := Nat.exists_eq_add_of_le h
    by_cases ht : t = 0
    · subst ht
      rw [if_pos (by omega), show (((a : Int)) - ((a + 0 : Nat) : Int)).toNat = 0 by omega, Nat.pow_zero, Nat.mul_one, Nat.add_zero]
      have := nearR_scale (A := Q) (B := 1) (c := 10 ^ a) (by decide) (Nat.pow_pos (by decide))
      rw [Nat.one_mul] at this
      rw [this]
    · rw [if_neg (by omega), show (-(((a : Int)) - ((a + t : Nat) : Int))).toNat = t by omega, Nat.pow_add, Nat.mul_comm (10 ^ a)]
      exact (nearR_scale (Nat.pow_pos (by decide)) (Nat.pow_pos (by decide))).symm
/-- How far off below a numeral may lie, in quarters of the lowest bit. -/
def bel (f d : Nat) : Nat := if f = 4503599627370496 ∧ 0 < d then 1 else 2
theorem bel_cases (f d : Nat) : (bel f d = 1 ∧ f = 4503599627370496 ∧ 0 < d) ∨ (bel f d = 2 ∧ ¬ (f = 4503599627370496 ∧ 0 < d)) := by
  unfold bel
  by_cases h : f = 4503599627370496 ∧ 0 < d
  · left; rw [if_pos h]; exact ⟨rfl, h⟩
  · right; rw [if_neg h]; exact ⟨rfl, h⟩
theorem nearR_ge {A B d f : Nat} (hB : 0 < B) (hf : f < 9007199254740992) (hd : d = 0 ∨ 4503599627370496 ≤ f) (hd2 : d ≤ 2045) (hf0 : 0 < f) :
    d * 4503599627370496 + f ≤ nearR A B ↔ ((4 * f - bel f d) * 2 ^ d * B < A * 2 ^ (OP + 2) ∨ ((4 * f - bel f d) * 2 ^ d * B = A * 2 ^ (OP + 2) ∧ f % 2 = 0)) := by
  have eO : A * 2 ^ (OP + 2) = 2 * (A * 2 ^ (OP + 1)) := by rw [show OP + 2 = OP + 1 + 1 by omega, Nat.pow_succ]; grind
  rw [eO]
  rcases bel_cases f d with ⟨hb, h1, h2⟩ | ⟨hb, h1⟩
  · obtain ⟨e, rfl⟩ := Nat.exists_eq_add_of_lt h2
    subst h1
    have h := nearR_gt (A := A) (B := B) (d := e) (f := 9007199254740991) hB (by decide) (by omega) (by omega)
    have e1 : (0 + e + 1) * 4503599627370496 + 4503599627370496 ≤ nearR A B ↔ e * 4503599627370496 + 9007199254740991 < nearR A B := by omega
    rw [e1, h, hb]
    have e2 : (4 * 4503599627370496 - 1) * 2 ^ (0 + e + 1) * B = 2 * ((2 * 9007199254740991 + 1) * 2 ^ e * B) := by rw [Nat.zero_add, Nat.pow_succ]; grind
    rw [e2]
    omega
  · have h := nearR_gt (A := A) (B := B) (d := d) (f := f - 1) hB (by omega) (by omega) (by omega)
    have e1 : d * 4503599627370496 + f ≤ nearR A B ↔ d * 4503599627370496 + (f - 1) < nearR A B := by omega
    rw [e1, h, hb]
    have e2 : (4 * f - 2) * 2 ^ d * B = 2 * ((2 * (f - 1) + 1) * 2 ^ d * B) := by
      rw [show 4 * f - 2 = 2 * (2 * (f - 1) + 1) by omega]; grind
    rw [e2]
    omega
theorem cross_lt {X Y d u o w : Nat} (h : u + o = w + d) : (X * 2 ^ d < Y * 2 ^ o ↔ X * 2 ^ u < Y * 2 ^ w) ∧ (X * 2 ^ d = Y * 2 ^ o ↔ X * 2 ^ u = Y * 2 ^ w) := by
  have hw := Nat.two_pow_pos w
  have ho := Nat.two_pow_pos o
  have e : (2 : Nat) ^ u * 2 ^ o = 2 ^ w * 2 ^ d := by rw [← Nat.pow_add, ← Nat.pow_add, h]
  have e1 : X * 2 ^ d * 2 ^ w = X * 2 ^ u * 2 ^ o := by rw [Nat.mul_assoc, Nat.mul_comm (2 ^ d), ← e, ← Nat.mul_assoc]
  have e2 : Y * 2 ^ o * 2 ^ w = Y * 2 ^ w * 2 ^ o := by rw [Nat.mul_right_comm]
  constructor
  · rw [← Nat.mul_lt_mul_right (a := 2 ^ w) hw, ← Nat.mul_lt_mul_right (a := 2 ^ o) (b := X * 2 ^ u) ho, e1, e2]
  · constructor
    · intro k
      exact Nat.eq_of_mul_eq_mul_right ho (by rw [← e1, ← e2, k])
    · intro k
      exact Nat.eq_of_mul_eq_mul_right hw (by rw [e1, e2, k])
/-- Which numerals are read as no less. -/
theorem low_iff {d f up down a c q : Nat} (E : Int) (hE : E = (c : Int) - a) (hf : f < 9007199254740992) (hd : d = 0 ∨ 4503599627370496 ≤ f) (hd2 : d ≤ 2045) (hf0 : 0 < f) (hud : up + (OP + 2) = down + d) :
    d * 4503599627370496 + f ≤ decN q E ↔ ((4 * f - bel f d) * (2 ^ up * 10 ^ a) < q * (2 ^ down * 10 ^ c) ∨ ((4 * f - bel f d) * (2 ^ up * 10 ^ a) = q * (2 ^ down * 10 ^ c) ∧ f % 2 = 0)) := by
  rw [decN_pair q c a E hE, nearR_ge (Nat.pow_pos (by decide)) hf hd hd2 hf0]
  obtain ⟨h1, h2⟩ := cross_lt (X := (4 * f - bel f d) * 10 ^ a) (Y := q * 10 ^ c) hud
  have e1 : (4 * f - bel f d) * 2 ^ d * 10 ^ a = (4 * f - bel f d) * 10 ^ a * 2 ^ d := Nat.mul_right_comm _ _ _
  have e2 : (4 * f - bel f d) * (2 ^ up * 10 ^ a) = (4 * f - bel f d) * 10 ^ a * 2 ^ up := by rw [← Nat.mul_assoc, Nat.mul_right_comm]
  have e3 : q * (2 ^ down * 10 ^ c) = q * 10 ^ c * 2 ^ down := by rw [← Nat.mul_assoc, Nat.mul_right_comm]
  rw [e1, e2, e3, h1, h2]
/-- Which numerals are read as more. -/
theorem gt_iff {d f up down a c q : Nat} (E : Int) (hE : E = (c : Int) - a) (hf : f < 9007199254740992) (hd : d = 0 ∨ 4503599627370496 ≤ f) (hd2 : d ≤ 2045) (hud : up + (OP + 2) = down + d) :
    d * 4503599627370496 + f < decN q E ↔ ((4 * f + 2) * (2 ^ up * 10 ^ a) < q * (2 ^ down * 10 ^ c) ∨ ((4 * f + 2) * (2 ^ up * 10 ^ a) = q * (2 ^ down * 10 ^ c) ∧ f % 2 = 1)) := by
  rw [decN_pair q c a E hE, nearR_gt (Nat.pow_pos (by decide)) hf hd hd2]
  obtain ⟨h1, h2⟩ := cross_lt (X := (4 * f + 2) * 10 ^ a) (Y := q * 10 ^ c) hud
  have e1 : q * 10 ^ c * 2 ^ (OP + 2) = 2 * (q * 10 ^ c * 2 ^ (OP + 1)) := by rw [show OP + 2 = OP + 1 + 1 by omega, Nat.pow_succ]; grind
  have e0 : (4 * f + 2) * 10 ^ a * 2 ^ d = 2 * ((2 * f + 1) * 2 ^ d * 10 ^ a) := by grind
  have e2 : (4 * f + 2) * (2 ^ up * 10 ^ a) = (4 * f + 2) * 10 ^ a * 2 ^ up := by rw [← Nat.mul_assoc, Nat.mul_right_comm]
  have e3 : q * (2 ^ down * 10 ^ c) = q * 10 ^ c * 2 ^ down := by rw [← Nat.mul_assoc, Nat.mul_right_comm]
  rw [e2, e3, ← h1, ← h2, e0, e1]
  omega
theorem wit_true {ed : Bool} {x y : Nat} : wit ed x y = true ↔ (x < y ∨ (x = y ∧ ed = true)) := by unfold wit; simp
/-- What is cut off is read as the number just where it is in the room below. -/
theorem low_wit {d f up down a c i : Nat} (E : Int) (hE : E = (c : Int) - ((a + i : Nat) : Int)) (hf : f < 9007199254740992) (hd : d = 0 ∨ 4503599627370496 ≤ f) (hd2 : d ≤ 2045) (hf0 : 0 < f) (hud : up + (OP + 2) = down + d)
    (Tt U L : Nat) (hT : Tt = 4 * f * (2 ^ up * 10 ^ a)) (hU : U = 2 ^ down * 10 ^ c) (hL : L = bel f d * (2 ^ up * 10 ^ a)) :
    decide (decN (Tt * 10 ^ i / U) E = d * 4503599627370496 + f) = wit (f % 2 == 0) (Tt * 10 ^ i % U) (L * 10 ^ i) := by
  have h1 := low_iff (q := Tt * 10 ^ i / U) E hE hf hd hd2 hf0 hud
  have h2 := gt_iff (q := Tt * 10 ^ i / U) E hE hf hd hd2 hud
  rw [← hU] at h1 h2
  have hz : 2 ^ up * 10 ^ (a + i) = 2 ^ up * 10 ^ a * 10 ^ i := by rw [Nat.pow_add, Nat.mul_assoc]
  rw [hz] at h1 h2
  have hzp : 0 < 2 ^ up * 10 ^ a * 10 ^ i := Nat.mul_pos (Nat.mul_pos (Nat.two_pow_pos up) (Nat.pow_pos (by decide))) (Nat.pow_pos (by decide))
  have hN := Nat.div_add_mod (Tt * 10 ^ i) U
  have eT : Tt * 10 ^ i = 4 * f * (2 ^ up * 10 ^ a * 10 ^ i) := by rw [hT, Nat.mul_assoc (4 * f)]
  have eL : L * 10 ^ i = bel f d * (2 ^ up * 10 ^ a * 10 ^ i) := by rw [hL, Nat.mul_assoc]
  have hb := bel_cases f d
  rw [eL]
  rw [Nat.mul_comm U] at hN
  generalize Tt * 10 ^ i / U * U = V at *
  generalize Tt * 10 ^ i % U = r at *
  generalize 2 ^ up * 10 ^ a * 10 ^ i = z at *
  rw [eT] at hN
  rw [Bool.eq_iff_iff, decide_eq_true_iff, wit_true]
  have s1 : (4 * f - bel f d) * z + bel f d * z = 4 * f * z := by rw [← Nat.add_mul]; congr 1; omega
  have s2 : (4 * f + 2) * z = 4 * f * z + 2 * z := by rw [Nat.add_mul]
  have s3 : (f % 2 == 0) = true ↔ f % 2 = 0 := by simp
  rw [s3]
  rw [s2] at h2
  generalize 4 * f * z = F at *
  generalize (4 * f - bel f d) * z = G at *
  generalize bel f d * z = W at *
  generalize decN (Tt * 10 ^ i / U) E = n at *
  clear hb hz eT eL hT hL hE
  have h2' : ¬ d * 4503599627370496 + f < n := by rw [h2]; omega
  have h3 : n = d * 4503599627370496 + f ↔ d * 4503599627370496 + f ≤ n := by omega
  rw [h3, h1]
  omega
/-- One more is read as the number just where it is in the room above. -/
theorem high_wit {d f up down a c i : Nat} (E : Int) (hE : E = (c : Int) - ((a + i : Nat) : Int)) (hf : f < 9007199254740992) (hd : d = 0 ∨ 4503599627370496 ≤ f) (hd2 : d ≤ 2045) (hf0 : 0 < f) (hud : up + (OP + 2) = down + d)
    (Tt U A : Nat) (hT : Tt = 4 * f * (2 ^ up * 10 ^ a)) (hU : U = 2 ^ down * 10 ^ c) (hA : A = 2 * (2 ^ up * 10 ^ a)) :
    decide (decN (Tt * 10 ^ i / U + 1) E = d * 4503599627370496 + f) = wit (f % 2 == 0) (U - Tt * 10 ^ i % U) (A * 10 ^ i) := by
  have h1 := low_iff (q := Tt * 10 ^ i / U + 1) E hE hf hd hd2 hf0 hud
  have h2 := gt_iff (q := Tt * 10 ^ i / U + 1) E hE hf hd hd2 hud
  rw [← hU] at h1 h2
  have hz : 2 ^ up * 10 ^ (a + i) = 2 ^ up * 10 ^ a * 10 ^ i := by rw [Nat.pow_add, Nat.mul_assoc]
  rw [hz] at h1 h2
  have hzp : 0 < 2 ^ up * 10 ^ a * 10 ^ i := Nat.mul_pos (Nat.mul_pos (Nat.two_pow_pos up) (Nat.pow_pos (by decide))) (Nat.pow_pos (by decide))
  have hUp : 0 < U := by rw [hU]; exact Nat.mul_pos (Nat.two_pow_pos down) (Nat.pow_pos (by decide))
  have hN := Nat.div_add_mod (Tt * 10 ^ i) U
  have hr := Nat.mod_lt (Tt * 10 ^ i) hUp
  have eT : Tt * 10 ^ i = 4 * f * (2 ^ up * 10 ^ a * 10 ^ i) := by rw [hT, Nat.mul_assoc (4 * f)]
  have eA : A * 10 ^ i = 2 * (2 ^ up * 10 ^ a * 10 ^ i) := by rw [hA, Nat.mul_assoc]
  have hb := bel_cases f d
  rw [eA]
  have hq1 : (Tt * 10 ^ i / U + 1) * U = Tt * 10 ^ i / U * U + U := by rw [Nat.add_mul, Nat.one_mul]
  rw [hq1] at h1 h2
  rw [Nat.mul_comm U] at hN
  generalize Tt * 10 ^ i / U * U = V at *
  generalize Tt * 10 ^ i % U = r at *
  generalize 2 ^ up * 10 ^ a * 10 ^ i = z at *
  rw [eT] at hN
  rw [Bool.eq_iff_iff, decide_eq_true_iff, wit_true]
  have s1 : (4 * f - bel f d) * z + bel f d * z = 4 * f * z := by rw [← Nat.add_mul]; congr 1; omega
  have s2 : (4 * f + 2) * z = 4 * f * z + 2 * z := by rw [Nat.add_mul]
  have s3 : (f % 2 == 0) = true ↔ f % 2 = 0 := by simp
  rw [s3]
  rw [s2] at h2
  generalize 4 * f * z = F at *
  generalize (4 * f - bel f d) * z = G at *
  generalize bel f d * z = W at *
  generalize decN (Tt * 10 ^ i / U + 1) E = n at *
  clear hb hz eT eA hT hA hE
  have h1' : d * 4503599627370496 + f ≤ n := by rw [h1]; omega
  have h3 : n = d * 4503599627370496 + f ↔ ¬ d * 4503599627370496 + f < n := by omega
  rw [h3, h2]
  omega
/-- What the digit at the place i tells: none to go on, or the digits so far as a number. -/
def stp (U : Nat) (ed : Bool) (Tt L A i : Nat) : Option Nat :=
  if moreB ed (wit ed (Tt * 10 ^ i % U) (L * 10 ^ i)) (U - Tt * 10 ^ i % U) (Tt * 10 ^ i % U) (A * 10 ^ i) (Tt * 10 ^ i / U) then some (Tt * 10 ^ i / U + 1)
  else if wit ed (Tt * 10 ^ i % U) (L * 10 ^ i) then some (Tt * 10 ^ i / U) else none
/-- Digits as a number. -/
def ofD : List Nat → Nat
  | [] => 0
  | d :: ds => d * 10 ^ ds.length + ofD ds
theorem moreB_par {ed st : Bool} {l t A d e : Nat} (h : d % 2 = e % 2) : moreB ed st l t A d = moreB ed st l t A e := by unfold moreB; rw [h]
theorem stp_next (U : Nat) (ed : Bool) (Tt L A i : Nat) (hU : 0 < U) : stp U ed Tt L A (i + 1) = (stp U ed (Tt % U * 10) (L * 10) (A * 10) i).map (Tt / U * 10 ^ (i + 1) + ·) := by
  have e0 : ∀ x : Nat, x * 10 * 10 ^ i = x * 10 ^ (i + 1) := by intro x; rw [Nat.pow_succ]; grind
  have hT := Nat.div_add_mod Tt U
  have e1 : Tt * 10 ^ (i + 1) = Tt % U * 10 * 10 ^ i + U * (Tt / U * 10 ^ (i + 1)) := by
    rw [e0]
    have : Tt * 10 ^ (i + 1) = (U * (Tt / U) + Tt % U) * 10 ^ (i + 1) := by rw [hT]
    rw [this]; grind
  have e2 : Tt * 10 ^ (i + 1) % U = Tt % U * 10 * 10 ^ i % U := by rw [e1, Nat.add_mul_mod_self_left]
  have e3 : Tt * 10 ^ (i + 1) / U = Tt / U * 10 ^ (i + 1) + Tt % U * 10 * 10 ^ i / U := by rw [e1, Nat.add_mul_div_left _ _ hU, Nat.add_comm]
  have e4 : (Tt / U * 10 ^ (i + 1) + Tt % U * 10 * 10 ^ i / U) % 2 = Tt % U * 10 * 10 ^ i / U % 2 := by
    rw [Nat.pow_succ, show Tt / U * (10 ^ i * 10) = 2 * (Tt / U * (10 ^ i * 5)) by grind]; omega
  unfold stp
  rw [e2, e3, moreB_par e4, e0 L, e0 A]
  split
  · simp [Nat.add_assoc]
  · split
    · simp
    · simp
theorem digF_run (U : Nat) (ed : Bool) (hU : 0 < U) : ∀ (m F Tt L A Q : Nat), m < F → (∀ j, j < m → stp U ed Tt L A j = none) → stp U ed Tt L A m = some Q →
    ∃ DS, digF U ed F Tt L A = some DS ∧ DS.length = m + 1 ∧ ofD DS = Q := by
  intro m
  induction m with
  | zero =>
    intro F Tt L A Q hF _ h
    obtain ⟨F, rfl⟩ : ∃ F', F = F' + 1 := ⟨F - 1, by omega⟩
    unfold stp at h
    simp only [Nat.pow_zero, Nat.mul_one] at h
    unfold digF
    split at h
    · next c => rw [if_pos c]; injection h with h; exact ⟨_, rfl, rfl, by simp [ofD, h]⟩
    · next c =>
      rw [if_neg c]
      split at h
      · next c2 => rw [if_pos c2]; injection h with h; exact ⟨_, rfl, rfl, by simp [ofD, h]⟩
      · cases h
  | succ m ih =>
    intro F Tt L A Q hF hn h
    obtain ⟨F, rfl⟩ : ∃ F', F = F' + 1 := ⟨F - 1, by omega⟩
    have h0 := hn 0 (by omega)
    unfold stp at h0
    simp only [Nat.pow_zero, Nat.mul_one] at h0
    unfold digF
    split at h0
    · cases h0
    · next c =>
      rw [if_neg c]
      split at h0
      · cases h0
      · next c2 =>
        rw [if_neg c2]
        rw [stp_next U ed Tt L A m hU] at h
        cases hs : stp U ed (Tt % U * 10) (L * 10) (A * 10) m with
        | none => rw [hs] at h; cases h
        | some q =>
          rw [hs] at h
          injection h with h
          obtain ⟨DS, d1, d2, d3⟩ := ih F _ _ _ q (by omega) (fun j hj => by
            have := hn (j + 1) (by omega)
            rw [stp_next U ed Tt L A j hU] at this
            cases hs2 : stp U ed (Tt % U * 10) (L * 10) (A * 10) j with
            | none => rfl
            | some q => rw [hs2] at this; cases this) hs
          exact ⟨Tt / U :: DS, by rw [d1]; rfl, by simp [d2], by simp only [ofD, d2, d3]; exact h⟩
theorem wit_ten (ed : Bool) (x y : Nat) : wit ed (x * 10) (y * 10) = wit ed x y := by
  unfold wit
  rw [show decide (x * 10 < y * 10) = decide (x < y) by rw [decide_eq_decide]; omega, show decide (x * 10 = y * 10) = decide (x = y) by rw [decide_eq_decide]; omega]
/-- Digits that are digits, the last not 0. -/
def Dg (DS : List Nat) : Prop := (∀ d ∈ DS, d ≤ 9) ∧ ∃ p l, DS = p ++ [l] ∧ l ≠ 0
theorem moreB_high {ed st : Bool} {l t A d : Nat} (h : moreB ed st l t A d = true) : wit ed l A = true := by
  unfold moreB at h; simp at h; exact h.1
theorem moreB_no {ed : Bool} {l t A d : Nat} (h : ¬ moreB ed false l t A d = true) : wit ed l A = false := by
  unfold moreB at h; simpa using h
theorem digF_digits (U : Nat) (ed : Bool) (hU : 0 < U) : ∀ (F r L A : Nat) (DS : List Nat), r < U → wit ed r L = false → wit ed (U - r) A = false → digF U ed F (r * 10) (L * 10) (A * 10) = some DS → Dg DS := by
  intro F
  induction F with
  | zero => intro r L A DS _ _ _ h; cases h
  | succ F ih =>
    intro r L A DS hr h1 h2 h
    have hd : r * 10 / U ≤ 9 := by
      have : r * 10 / U < 10 := (Nat.div_lt_iff_lt_mul hU).2 (by omega)
      omega
    have hdm := Nat.div_add_mod (r * 10) U
    unfold digF at h
    split at h
    · next c =>
      injection h with h
      subst h
      have hh := moreB_high c
      have h9 : r * 10 / U ≤ 8 := by
        rcases Nat.lt_or_ge (r * 10 / U) 9 with k | k
        · omega
        · exfalso
          have k9 : r * 10 / U = 9 := by omega
          rw [k9] at hdm
          have : U - r * 10 % U = (U - r) * 10 := by omega
          rw [this, wit_ten, h2] at hh
          cases hh
      exact ⟨by intro d hx; simp at hx; omega, [], _, rfl, Nat.succ_ne_zero _⟩
    · next c =>
      split at h
      · next c2 =>
        injection h with h
        subst h
        refine ⟨by intro d hx; simp at hx; omega, [], _, rfl, ?_⟩
        intro k
        rw [k, Nat.mul_zero, Nat.zero_add] at hdm
        rw [hdm, wit_ten, h1] at c2
        cases c2
      · next c2 =>
        cases hs : digF U ed F (r * 10 % U * 10) (L * 10 * 10) (A * 10 * 10) with
        | none => rw [hs] at h; cases h
        | some ds =>
          rw [hs] at h
          injection h with h
          subst h
          have c2' : wit ed (r * 10 % U) (L * 10) = false := by simpa using c2
          rw [c2'] at c
          obtain ⟨g1, p, l, g2, g3⟩ := ih _ _ _ _ (Nat.mod_lt _ hU) c2' (moreB_no c) hs
          refine ⟨?_, _ :: p, l, by rw [g2]; rfl, g3⟩
          intro d hd'
          rcases List.mem_cons.1 hd' with k | k
          · omega
          · exact g1 d k
/-- What the digits are, all told. -/
theorem digF_top {U Tt L A F : Nat} {ed : Bool} {DS : List Nat} (hU : 0 < U) (h1 : U ≤ Tt) (h2 : Tt < 10 * U) (h : digF U ed F Tt L A = some DS) :
    DS = [10] ∨ (Dg DS ∧ ∃ x xs, DS = x :: xs ∧ 1 ≤ x) := by
  have hd0 : 1 ≤ Tt / U := (Nat.le_div_iff_mul_le hU).2 (by omega)
  have hd : Tt / U ≤ 9 := by
    have : Tt / U < 10 := (Nat.div_lt_iff_lt_mul hU).2 (by omega)
    omega
  cases F with
  | zero => cases h
  | succ F =>
    unfold digF at h
    split at h
    · next c =>
      injection h with h
      subst h
      rcases Nat.lt_or_ge (Tt / U) 9 with k | k
      · right; exact ⟨⟨by intro d hx; simp at hx; omega, [], _, rfl, by omega⟩, _, [], rfl, by omega⟩
      · left; rw [show Tt / U = 9 by omega]
    · next c =>
      split at h
      · next c2 =>
        injection h with h
        subst h
        right
        exact ⟨⟨by intro d hx; simp at hx; omega, [], _, rfl, by omega⟩, _, [], rfl, hd0⟩
      · next c2 =>
        right
        cases hs : digF U ed F (Tt % U * 10) (L * 10) (A * 10) with
        | none => rw [hs] at h; cases h
        | some ds =>
          rw [hs] at h
          injection h with h
          subst h
          have c2' : wit ed (Tt % U) L = false := by simpa using c2
          rw [c2'] at c
          obtain ⟨g1, p, l, g2, g3⟩ := digF_digits U ed hU F _ _ _ _ (Nat.mod_lt _ hU) c2' (moreB_no c) hs
          refine ⟨⟨?_, _ :: p, l, by rw [g2]; rfl, g3⟩, _, _, rfl, hd0⟩
          intro d hd'
          rcases List.mem_cons.1 hd' with k | k
          · omega
          · exact g1 d k
theorem stp_none {U : Nat} {ed : Bool} {Tt L A i : Nat} (h : stp U ed Tt L A i = none) : wit ed (Tt * 10 ^ i % U) (L * 10 ^ i) = false ∧ wit ed (U - Tt * 10 ^ i % U) (A * 10 ^ i) = false := by
  unfold stp at h
  split at h
  · cases h
  · next c =>
    split at h
    · cases h
    · next c2 =>
      have c2' : wit ed (Tt * 10 ^ i % U) (L * 10 ^ i) = false := by simpa using c2
      rw [c2'] at c
      exact ⟨c2', moreB_no c⟩
/-- Seventeen digits are enough. -/
theorem stp_ends {U Tt C f d : Nat} {ed : Bool} (hf : f < 9007199254740992) (hT : Tt = 4 * f * C) (hU : U ≤ Tt) (hU0 : 0 < U) :
    stp U ed Tt (bel f d * C) (2 * C) 16 ≠ none := by
  intro h
  obtain ⟨h1, h2⟩ := stp_none h
  have w1 : ¬ (Tt * 10 ^ 16 % U < bel f d * C * 10 ^ 16) := by
    intro k; rw [wit_true.2 (Or.inl k)] at h1; cases h1
  have w2 : ¬ (U - Tt * 10 ^ 16 % U < 2 * C * 10 ^ 16) := by
    intro k; rw [wit_true.2 (Or.inl k)] at h2; cases h2
  have hr := Nat.mod_lt (Tt * 10 ^ 16) hU0
  generalize Tt * 10 ^ 16 % U = r at *
  have hCp : 0 < C := by
    rcases Nat.eq_zero_or_pos C with k | k
    · subst k; rw [Nat.mul_zero] at hT; omega
    · exact k
  rcases bel_cases f d with ⟨hb, h3, h4⟩ | ⟨hb, h3⟩
  · rw [hb] at w1; subst h3; rw [hT] at hU; omega
  · rw [hb] at w1
    have : f * C ≤ 9007199254740991 * C := Nat.mul_le_mul_right _ (by omega)
    rw [hT, Nat.mul_assoc] at hU
    omega
theorem stp_first {U : Nat} {ed : Bool} {Tt L A : Nat} (n : Nat) (h : stp U ed Tt L A n ≠ none) : ∃ m Q, m ≤ n ∧ (∀ j, j < m → stp U ed Tt L A j = none) ∧ stp U ed Tt L A m = some Q := by
  induction n with
  | zero =>
    cases hs : stp U ed Tt L A 0 with
    | none => exact absurd hs h
    | some Q => exact ⟨0, Q, Nat.le_refl _, fun j hj => by omega, hs⟩
  | succ n ih =>
    by_cases hn : stp U ed Tt L A n = none
    · by_cases ha : ∃ j, j ≤ n ∧ stp U ed Tt L A j ≠ none
      · clear ih
        obtain ⟨j, hj, hj2⟩ := ha
        -- the least of them
        have key : ∀ k, k ≤ n → stp U ed Tt L A k ≠ none → ∃ m Q, m ≤ n ∧ (∀ j, j < m → stp U ed Tt L A j = none) ∧ stp U ed Tt L A m = some Q := by
          intro k
          induction k using Nat.strongRecOn with
          | ind k ihk =>
            intro hk hk2
            by_cases hb : ∃ j, j < k ∧ stp U ed Tt L A j ≠ none
            · obtain ⟨i, hi, hi2⟩ := hb
              exact ihk i hi (by omega) hi2
            · cases hs : stp U ed Tt L A k with
              | none => exact absurd hs hk2
              | some Q => exact ⟨k, Q, hk, fun j hj => Decidable.byContradiction fun c => hb ⟨j, hj, c⟩, hs⟩
        obtain ⟨m, Q, a, b, c⟩ := key j hj hj2
        exact ⟨m, Q, by omega, b, c⟩
      · cases hs : stp U ed Tt L A (n + 1) with
        | none => exact absurd hs h
        | some Q => exact ⟨n + 1, Q, Nat.le_refl _, fun j hj => Decidable.byContradiction fun c => ha ⟨j, by omega, c⟩, hs⟩
    · obtain ⟨m, Q, a, b, c⟩ := ih hn
      exact ⟨m, Q, by omega, b, c⟩

end Go.Proofs.YtjbnjfdpfkdmeaaDoor

/-
  Layer 5: digits as letters; what belongs to a number: its first place, its digits; the reference's quotients against the landed ones.
-/
namespace Go.Proofs.YtjbnjfdpfkdmeaaDoor
set_option maxRecDepth 100000
open Go.RowKit Flo Txt

/-! Digits as letters. -/
theorem ten_byte {k : Nat} (h : k < 10) : (UInt8.ofNat (48 + k)).toNat = 48 + k := by rw [UInt8.toNat_ofNat']; omega
theorem dec_spec : ∀ n : Nat, dv (Lib.decDigits n) 0 = n ∧ AllD (Lib.decDigits n) ∧ Lib.decDigits n ≠ [] := by
  intro n
  induction n using Nat.strongRecOn with
  | ind n ih =>
    rw [Lib.decDigits]
    by_cases h : n < 10
    · rw [dif_pos h]
      refine ⟨?_, ?_, by simp⟩
      · show 0 * 10 + ((UInt8.ofNat (48 + n)).toNat - 48) = n
        rw [ten_byte h]; omega
      · intro c hc
        rw [List.mem_singleton] at hc
        subst hc
        unfold isD
        rw [ten_byte h]
        simp; omega
    · rw [dif_neg h]
      obtain ⟨i1, i2, i3⟩ := ih (n / 10) (by omega)
      refine ⟨?_, ?_, by simp⟩
      · rw [dv_append, i1]
        show n / 10 * 10 + ((UInt8.ofNat (48 + n % 10)).toNat - 48) = n
        rw [ten_byte (by omega)]; omega
      · intro c hc
        rcases List.mem_append.1 hc with k | k
        · exact i2 c k
        · rw [List.mem_singleton] at k
          subst k
          unfold isD
          rw [ten_byte (by omega)]
          simp; omega
theorem dec_length : ∀ (k n : Nat), 0 < k → ((Lib.decDigits n).length ≤ k ↔ n < 10 ^ k) := by
  intro k
  induction k with
  | zero => intro n h; omega
  | succ k ih =>
    intro n _
    rw [Lib.decDigits]
    by_cases h : n < 10
    · rw [dif_pos h]
      have : 10 ^ 1 ≤ 10 ^ (k + 1) := Nat.pow_le_pow_right (by decide) (by omega)
      simp; omega
    · rw [dif_neg h, List.length_append, List.length_singleton]
      by_cases hk : k = 0
      · subst hk
        have : (Lib.decDigits (n / 10)).length ≠ 0 := by
          intro e; exact (dec_spec (n / 10)).2.2 (List.length_eq_zero_iff.1 e)
        simp only [Nat.zero_add, Nat.pow_one]; omega
      · have := ih (n / 10) (by omega)
        rw [Nat.add_le_add_iff_right, this, Nat.pow_succ]
        omega
/-- Digits without noughts behind: at most so many are cut off. -/
def trimF : Nat → List UInt8 → List UInt8
  | 0, l => l
  | n + 1, l => if 1 < l.length ∧ l.getLast? = some 48 then trimF n l.dropLast else l
/-- Digits without noughts behind. -/
def trimL (l : List UInt8) : List UInt8 := trimF l.length l
theorem trimL_eq (l : List UInt8) : trimL l = if 1 < l.length ∧ l.getLast? = some 48 then trimL l.dropLast else l := by
  unfold trimL
  match l with
  | [] => rfl
  | c :: r =>
    show trimF (r.length + 1) (c :: r) = _
    rw [List.length_dropLast]
    rfl
theorem trimL_id {p : List UInt8} {c : UInt8} (h : c ≠ 48) : trimL (p ++ [c]) = p ++ [c] := by
  rw [trimL_eq, if_neg]
  rintro ⟨_, k⟩
  rw [List.getLast?_concat] at k
  exact h (Option.some.inj k)
theorem ofD_snoc (p : List Nat) (d : Nat) : ofD (p ++ [d]) = ofD p * 10 + d := by
  induction p with
  | nil => simp [ofD]
  | cons x xs ih =>
    show x * 10 ^ (xs ++ [d]).length + ofD (xs ++ [d]) = (x * 10 ^ xs.length + ofD xs) * 10 + d
    rw [ih, List.length_append, List.length_singleton, Nat.pow_succ]
    grind
theorem dec_ofD : ∀ (n : Nat) (x : Nat) (xs : List Nat), xs.length = n → (∀ d ∈ x :: xs, d ≤ 9) → 1 ≤ x → Lib.decDigits (ofD (x :: xs)) = dtx (x :: xs) ∧ 1 ≤ ofD (x :: xs) := by
  intro n
  induction n with
  | zero =>
    intro x xs hl h1 h2
    obtain rfl := List.length_eq_zero_iff.1 hl
    have hx := h1 x (by simp)
    have e : ofD [x] = x := by simp [ofD]
    rw [e, Lib.decDigits, dif_pos (by omega)]
    exact ⟨rfl, h2⟩
  | succ n ih =>
    intro x xs hl h1 h2
    have hne : xs ≠ [] := by intro e; subst e; simp at hl
    obtain ⟨ys, d, rfl⟩ : ∃ ys d, xs = ys ++ [d] := ⟨xs.dropLast, xs.getLast hne, (List.dropLast_concat_getLast hne).symm⟩
    have hys : ys.length = n := by simp at hl; exact hl
    obtain ⟨i1, i2⟩ := ih x ys hys (fun d hd => h1 d (by simp at hd ⊢; rcases hd with k | k; exact Or.inl k; exact Or.inr (Or.inl k))) h2
    have hd := h1 d (by simp)
    rw [show x :: (ys ++ [d]) = (x :: ys) ++ [d] from rfl, ofD_snoc, Lib.decDigits, dif_neg (by omega), show (ofD (x :: ys) * 10 + d) / 10 = ofD (x :: ys) by omega, show (ofD (x :: ys) * 10 + d) % 10 = d by omega, i1]
    refine ⟨?_, by omega⟩
    show dtx (x :: ys) ++ [UInt8.ofNat (48 + d)] = dtx (x :: ys ++ [d])
    unfold dtx
    rw [List.map_append]; rfl
theorem ofD_lt : ∀ (ds : List Nat), (∀ d ∈ ds, d ≤ 9) → ofD ds < 10 ^ ds.length := by
  intro ds
  induction ds with
  | nil => intro _; simp [ofD]
  | cons x xs ih =>
    intro h
    have := ih (fun d hd => h d (by simp [hd]))
    have hx := h x (by simp)
    show x * 10 ^ xs.length + ofD xs < 10 ^ (xs.length + 1)
    have h2 : x * 10 ^ xs.length ≤ 9 * 10 ^ xs.length := Nat.mul_le_mul_right _ hx
    rw [Nat.pow_succ]; omega
/-- What the digits that were told are, as the number Q of so many digits. -/
theorem told_digits {DS : List Nat} {m Q : Nat} (hl : DS.length = m + 1) (hQ : ofD DS = Q) (h : DS = [10] ∨ (Dg DS ∧ ∃ x xs, DS = x :: xs ∧ 1 ≤ x)) :
    (DS = [10] ∧ m = 0 ∧ Q = 10) ∨ ((∀ d ∈ DS, d ≤ 9) ∧ trimL (Lib.decDigits Q) = dtx DS ∧ Q < 10 ^ (m + 1)) := by
  rcases h with h | ⟨⟨h1, p, l, h2, h3⟩, x, xs, h4, h5⟩
  · left
    subst h
    simp at hl
    refine ⟨rfl, hl, ?_⟩
    rw [← hQ]; simp [ofD]
  · right
    refine ⟨h1, ?_, by rw [← hQ, ← hl]; exact ofD_lt DS h1⟩
    have e : Lib.decDigits Q = dtx DS := by
      rw [← hQ, h4]
      exact (dec_ofD xs.length x xs rfl (by rw [← h4]; exact h1) h5).1
    rw [e, h2]
    unfold dtx
    rw [List.map_append]
    refine trimL_id ?_
    have hl9 := h1 l (by rw [h2]; simp)
    intro k
    have := congrArg UInt8.toNat k
    rw [ten_byte (by omega)] at this
    simp at this
    exact h3 this
theorem trim_ten : trimL (Lib.decDigits 10) = [49] := by
  have e : Lib.decDigits 10 = [49, 48] := by
    rw [Lib.decDigits, dif_neg (by decide), Lib.decDigits, dif_pos (by decide)]; decide
  rw [e]; decide
/-! What belongs to a number: its first place, its digits. -/
theorem place_up : (List.range 1024).all (fun E => decide (10 ^ (E * 1233 / 4096 - 1) ≤ 2 ^ E)) = true := by decide +kernel
theorem place_down : (List.range 1075).all (fun F => decide (2 ^ F ≤ 10 ^ ((F * 1233 + 4095) / 4096 + 1))) = true := by decide +kernel
theorem place_le {E : Int} {u w a c : Nat} (h1 : -1074 ≤ E) (h2 : E ≤ 1023) (hE : E = (u : Int) - w) (ha : (a : Int) = max (-(E * 1233 / 4096 - 1)) 0) (hc : (c : Int) = max (E * 1233 / 4096 - 1) 0) : 2 ^ w * 10 ^ c ≤ 2 ^ u * 10 ^ a := by
  rcases Int.lt_or_le E 0 with h | h
  · obtain ⟨F, hF⟩ : ∃ F : Nat, -E = (F : Int) := ⟨(-E).toNat, by omega⟩
    have k := List.all_eq_true.1 place_down F (List.mem_range.2 (by omega))
    rw [decide_eq_true_iff] at k
    have hc0 : c = 0 := by omega
    have ha1 : (F * 1233 + 4095) / 4096 + 1 ≤ a := by omega
    obtain ⟨t, ht⟩ : ∃ t, w = u + F ∧ t = 0 := ⟨0, by omega, rfl⟩
    rw [hc0, Nat.pow_zero, Nat.mul_one, ht.1, Nat.pow_add]
    exact Nat.mul_le_mul_left _ (Nat.le_trans k (Nat.pow_le_pow_right (by decide) ha1))
  · obtain ⟨F, hF⟩ : ∃ F : Nat, E = (F : Int) := ⟨E.toNat, by omega⟩
    have k := List.all_eq_true.1 place_up F (List.mem_range.2 (by omega))
    rw [decide_eq_true_iff] at k
    have hu : u = w + F := by omega
    have hc1 : c = F * 1233 / 4096 - 1 := by omega
    rw [hc1, hu, Nat.pow_add, Nat.mul_assoc]
    refine Nat.mul_le_mul_left _ (Nat.le_trans k ?_)
    exact Nat.le_mul_of_pos_right _ (Nat.pow_pos (by decide))
/-- All that is reckoned of a number that is f times 2 to the power d - 1074. -/
structure Pm (f d up down a c n m Q : Nat) (place : Int) : Prop where
  f0 : 0 < f
  f1 : f < 9007199254740992
  d0 : d = 0 ∨ 4503599627370496 ≤ f
  d1 : d ≤ 2045
  hu : (up : Int) = max ((d : Int) - 1074 - 2) 0
  hd : (down : Int) = max (-((d : Int) - 1074 - 2)) 0
  hp : place = ((d : Int) - 1074 + Lib.bitLen f - 1) * 1233 / 4096 - 1
  ha : (a : Int) = max (-place) 0
  hc : (c : Int) = max place 0
  hn : n ≤ 1000
  lo : 2 ^ down * 10 ^ (c + n) ≤ 4 * f * (2 ^ up * 10 ^ a)
  hi : 4 * f * (2 ^ up * 10 ^ a) < 10 * (2 ^ down * 10 ^ (c + n))
  st : ∀ j, j < n → 10 * (2 ^ down * 10 ^ (c + j)) ≤ 4 * f * (2 ^ up * 10 ^ a)
  m16 : m ≤ 16
  go : ∀ j, j < m → stp (2 ^ down * 10 ^ (c + n)) (f % 2 == 0) (4 * f * (2 ^ up * 10 ^ a)) (bel f d * (2 ^ up * 10 ^ a)) (2 * (2 ^ up * 10 ^ a)) j = none
  at' : stp (2 ^ down * 10 ^ (c + n)) (f % 2 == 0) (4 * f * (2 ^ up * 10 ^ a)) (bel f d * (2 ^ up * 10 ^ a)) (2 * (2 ^ up * 10 ^ a)) m = some Q
theorem first_power {T0 U0 : Nat} : ∀ N : Nat, T0 < 10 * (U0 * 10 ^ N) → ∃ n, n ≤ N ∧ T0 < 10 * (U0 * 10 ^ n) ∧ ∀ j, j < n → 10 * (U0 * 10 ^ j) ≤ T0 := by
  intro N
  induction N with
  | zero => intro h; exact ⟨0, Nat.le_refl _, h, fun j hj => by omega⟩
  | succ N ih =>
    intro h
    rcases Nat.lt_or_ge T0 (10 * (U0 * 10 ^ N)) with k | k
    · obtain ⟨n, a, b, c⟩ := ih k
      exact ⟨n, by omega, b, c⟩
    · refine ⟨N + 1, Nat.le_refl _, h, fun j hj => ?_⟩
      have : U0 * 10 ^ j ≤ U0 * 10 ^ N := Nat.mul_le_mul_left _ (Nat.pow_le_pow_right (by decide) (by omega))
      omega
def MX : Nat := 1000
def M9 : Nat := 970
def M13 : Nat := 1320
theorem MX_eq : MX = 1000 := rfl
theorem M9_eq : M9 = 970 := rfl
theorem M13_eq : M13 = 1320 := rfl
theorem pm_bound {f up a : Nat} (hf : f < 9007199254740992) (hu : up ≤ 970) (ha : a ≤ 330) : 4 * f * (2 ^ up * 10 ^ a) < 10 ^ MX := by
  have h0 : 4 * f ≤ 2 ^ 55 := by omega
  have h1 : 2 ^ up ≤ 2 ^ M9 := Nat.pow_le_pow_right (by decide) (by rw [M9_eq]; exact hu)
  have h2 : 10 ^ a ≤ 2 ^ M13 := Nat.le_trans (pow_ten_lt a) (Nat.pow_le_pow_right (by decide) (by rw [M13_eq]; omega))
  have h3 : 2 ^ up * 10 ^ a ≤ 2 ^ M9 * 2 ^ M13 := Nat.mul_le_mul h1 h2
  have h4 : 4 * f * (2 ^ up * 10 ^ a) ≤ 2 ^ 55 * (2 ^ M9 * 2 ^ M13) := Nat.mul_le_mul h0 h3
  refine Nat.lt_of_le_of_lt h4 ?_
  decide +kernel
theorem pm_exists {f d : Nat} (f0 : 0 < f) (f1 : f < 9007199254740992) (d0 : d = 0 ∨ 4503599627370496 ≤ f) (d1 : d ≤ 2045) : ∃ up down a c n m Q place, Pm f d up down a c n m Q place := by
  obtain ⟨l1, l2, l3, l4⟩ := bitLen_bounds (x := f) (by omega) (by omega)
  have l5 : Lib.bitLen f ≤ 53 := by
    rcases Nat.lt_or_ge 53 (Lib.bitLen f) with k | k
    · exfalso
      have : 2 ^ 53 ≤ 2 ^ (Lib.bitLen f - 1) := Nat.pow_le_pow_right (by decide) (by omega)
      omega
    · exact k
  obtain ⟨place, hp⟩ : ∃ p : Int, p = ((d : Int) - 1074 + Lib.bitLen f - 1) * 1233 / 4096 - 1 := ⟨_, rfl⟩
  obtain ⟨up, hu⟩ : ∃ u : Nat, (u : Int) = max ((d : Int) - 1074 - 2) 0 := ⟨(max ((d : Int) - 1074 - 2) 0).toNat, by omega⟩
  obtain ⟨down, hd⟩ : ∃ u : Nat, (u : Int) = max (-((d : Int) - 1074 - 2)) 0 := ⟨(max (-((d : Int) - 1074 - 2)) 0).toNat, by omega⟩
  obtain ⟨a, ha⟩ : ∃ u : Nat, (u : Int) = max (-place) 0 := ⟨(max (-place) 0).toNat, by omega⟩
  obtain ⟨c, hc⟩ : ∃ u : Nat, (u : Int) = max place 0 := ⟨(max place 0).toNat, by omega⟩
  have hup : up ≤ 970 := by omega
  have ha3 : a ≤ 330 := by omega
  have hlow : 2 ^ down * 10 ^ c ≤ 4 * f * (2 ^ up * 10 ^ a) := by
    have h := place_le (E := (d : Int) - 1074 + Lib.bitLen f - 1) (u := up + Lib.bitLen f + 1) (w := down) (a := a) (c := c) (by omega) (by omega) (by omega) (by rw [← hp]; exact ha) (by rw [← hp]; exact hc)
    refine Nat.le_trans h ?_
    have e : 2 ^ (up + Lib.bitLen f + 1) = 4 * 2 ^ (Lib.bitLen f - 1) * 2 ^ up := by
      rw [show up + Lib.bitLen f + 1 = 2 + (Lib.bitLen f - 1) + up by omega, Nat.pow_add, Nat.pow_add]
    rw [e, Nat.mul_assoc]
    exact Nat.mul_le_mul_right _ (Nat.mul_le_mul_left _ l3)
  have hbig : 4 * f * (2 ^ up * 10 ^ a) < 10 * (2 ^ down * 10 ^ c * 10 ^ MX) := by
    refine Nat.lt_of_lt_of_le (pm_bound f1 hup ha3) ?_
    have : 1 ≤ 2 ^ down * 10 ^ c := Nat.mul_pos (Nat.two_pow_pos _) (Nat.pow_pos (by decide))
    have h2 : 1 * 10 ^ MX ≤ 2 ^ down * 10 ^ c * 10 ^ MX := Nat.mul_le_mul_right _ this
    rw [Nat.one_mul] at h2
    exact Nat.le_trans h2 (Nat.le_mul_of_pos_left _ (by decide))
  obtain ⟨n, n1, n2, n3⟩ := first_power MX hbig
  rw [MX_eq] at n1
  clear hbig
  have e : ∀ j, 2 ^ down * 10 ^ c * 10 ^ j = 2 ^ down * 10 ^ (c + j) := fun j => by rw [Nat.pow_add, Nat.mul_assoc]
  rw [e] at n2
  have n3' : ∀ j, j < n → 10 * (2 ^ down * 10 ^ (c + j)) ≤ 4 * f * (2 ^ up * 10 ^ a) := fun j hj => by rw [← e]; exact n3 j hj
  have lo : 2 ^ down * 10 ^ (c + n) ≤ 4 * f * (2 ^ up * 10 ^ a) := by
    by_cases hn : n = 0
    · subst hn; exact hlow
    · have := n3' (n - 1) (by omega)
      rw [show c + n = c + (n - 1) + 1 by omega, Nat.pow_succ, ← Nat.mul_assoc]
      omega
  have hU : 0 < 2 ^ down * 10 ^ (c + n) := Nat.mul_pos (Nat.two_pow_pos _) (Nat.pow_pos (by decide))
  obtain ⟨m, Q, m1, m2, m3⟩ := stp_first 16 (stp_ends (ed := f % 2 == 0) (d := d) f1 rfl lo hU)
  exact ⟨up, down, a, c, n, m, Q, place, f0, f1, d0, d1, hu, hd, hp, ha, hc, n1, lo, n2, n3', m1, m2, m3⟩
/-! The reference's quotients against these. -/
theorem pm_P {f d up down a c n m Q : Nat} {place : Int} (h : Pm f d up down a c n m Q place) : place + n = ((c + n : Nat) : Int) - a := by
  have h1 := h.ha; have h2 := h.hc; omega
theorem pm_xy {f d up down a c n m Q ex ey : Nat} {place : Int} (h : Pm f d up down a c n m Q place) (hx : (ex : Int) = max ((d : Int) - 1074) 0) (hy : (ey : Int) = max (-((d : Int) - 1074)) 0) : f * 2 ^ ex * 2 ^ down = 2 ^ ey * (4 * f * 2 ^ up) := by
  have h1 := h.hu; have h2 := h.hd
  have e : ex + down = ey + 2 + up := by omega
  have e2 : (2 : Nat) ^ ey * (4 * f * 2 ^ up) = f * (2 ^ ey * 2 ^ 2 * 2 ^ up) := by grind
  rw [e2, Nat.mul_assoc, ← Nat.pow_add, ← Nat.pow_add, ← Nat.pow_add, e]
theorem split_pow {k : Int} {p q : Nat} (h : k = (p : Int) - q) : 10 ^ k.toNat * 10 ^ q = 10 ^ (-k).toNat * 10 ^ p := by
  rw [← Nat.pow_add, ← Nat.pow_add]; congr 1; omega
theorem ten_pos (n : Nat) : 0 < 10 ^ n := Nat.pow_pos (by decide)
/-- The reference's numbers for i more digits, over the landed ones. -/
theorem pm_cross {f d up down a c n m Q ex ey : Nat} {place : Int} (h : Pm f d up down a c n m Q place) (hx : (ex : Int) = max ((d : Int) - 1074) 0) (hy : (ey : Int) = max (-((d : Int) - 1074)) 0) (i : Nat) (k : Int) (hk : k = (i : Int) - (place + n)) :
    f * 2 ^ ex * 10 ^ k.toNat * (2 ^ down * 10 ^ (c + n)) = 4 * f * (2 ^ up * 10 ^ a) * 10 ^ i * (2 ^ ey * 10 ^ (-k).toNat) := by
  have h1 := pm_xy h hx hy
  rw [pm_P h] at hk
  have h2 := split_pow (k := k) (p := a + i) (q := c + n) (by omega)
  have e1 : f * 2 ^ ex * 10 ^ k.toNat * (2 ^ down * 10 ^ (c + n)) = (f * 2 ^ ex * 2 ^ down) * (10 ^ k.toNat * 10 ^ (c + n)) := by grind
  have e2 : 4 * f * (2 ^ up * 10 ^ a) * 10 ^ i * (2 ^ ey * 10 ^ (-k).toNat) = (2 ^ ey * (4 * f * 2 ^ up)) * (10 ^ (-k).toNat * 10 ^ (a + i)) := by rw [Nat.pow_add]; grind
  rw [e1, e2, h1, h2]
theorem cross_div {x y t u : Nat} (hy : 0 < y) (hu : 0 < u) (h : x * u = t * y) : x / y = t / u ∧ x % y * u = t % u * y := by
  have hd : x / y = t / u := by
    rw [← Nat.mul_div_mul_right x y hu, h, Nat.mul_comm y u, Nat.mul_div_mul_right t u hy]
  refine ⟨hd, ?_⟩
  have e1 := Nat.div_add_mod x y
  have e2 := Nat.div_add_mod t u
  have e3 : (y * (x / y) + x % y) * u = (u * (t / u) + t % u) * y := by rw [e1, e2, h]
  rw [hd, Nat.add_mul, Nat.add_mul] at e3
  have e4 : y * (t / u) * u = u * (t / u) * y := by grind
  omega
theorem pm_U {f d up down a c n m Q : Nat} {place : Int} (_h : Pm f d up down a c n m Q place) : 0 < 2 ^ down * 10 ^ (c + n) := Nat.mul_pos (Nat.two_pow_pos _) (ten_pos _)
/-- Whether the number is at least 10 to a power. -/
theorem pm_least {f d up down a c n m Q ex ey : Nat} {place : Int} (h : Pm f d up down a c n m Q place) (hx : (ex : Int) = max ((d : Int) - 1074) 0) (hy : (ey : Int) = max (-((d : Int) - 1074)) 0) (e : Int) :
    2 ^ ey * 10 ^ e.toNat ≤ f * 2 ^ ex * 10 ^ (-e).toNat ↔ e ≤ place + n := by
  have hU := pm_U h
  have hlo := h.lo
  have hhi := h.hi
  have key := pm_cross h hx hy 0 (-(place + n)) (by omega)
  rw [Nat.pow_zero, Nat.mul_one] at key
  generalize hT : 4 * f * (2 ^ up * 10 ^ a) = Tt at *
  generalize 2 ^ down * 10 ^ (c + n) = U at *
  generalize f * 2 ^ ex = x at *
  have hyp : 0 < 2 ^ ey := Nat.two_pow_pos ey
  generalize 2 ^ ey = y at *
  generalize place + (n : Int) = P at *
  rw [Int.neg_neg] at key
  -- key : x * 10 ^ (-P)+ * U = Tt * (y * 10 ^ P+)
  have k1 : y * 10 ^ P.toNat ≤ x * 10 ^ (-P).toNat := by
    apply Nat.le_of_mul_le_mul_right _ hU
    rw [key, Nat.mul_comm]
    exact Nat.mul_le_mul_right _ hlo
  have k2 : x * 10 ^ (-P).toNat < y * 10 ^ P.toNat * 10 := by
    apply Nat.lt_of_mul_lt_mul_right (a := U)
    rw [key, show y * 10 ^ P.toNat * 10 * U = 10 * U * (y * 10 ^ P.toNat) by grind]
    exact Nat.mul_lt_mul_of_pos_right hhi (Nat.mul_pos hyp (ten_pos _))
  constructor
  · intro he
    rcases Int.lt_or_le P e with c | c
    · exfalso
      have s1 := split_pow (k := e) (p := e.toNat) (q := (-e).toNat) (by omega)
      -- y * 10^e+ ≤ x * 10^e-, so y * 10 * 10^P+ ≤ x * 10^P-
      have e1 : 10 ^ e.toNat * 10 ^ (-P).toNat = 10 ^ P.toNat * 10 ^ (-e).toNat * 10 ^ (e - P).toNat := by
        rw [← Nat.pow_add, ← Nat.pow_add, ← Nat.pow_add]; congr 1; omega
      have e2 : 10 ^ 1 ≤ 10 ^ (e - P).toNat := Nat.pow_le_pow_right (by decide) (by omega)
      have e3 : y * 10 ^ e.toNat * 10 ^ (-P).toNat ≤ x * 10 ^ (-e).toNat * 10 ^ (-P).toNat := Nat.mul_le_mul_right _ he
      have e4 : y * 10 ^ e.toNat * 10 ^ (-P).toNat = y * 10 ^ P.toNat * 10 ^ (-e).toNat * 10 ^ (e - P).toNat := by rw [Nat.mul_assoc, e1]; grind
      have e5 : x * 10 ^ (-e).toNat * 10 ^ (-P).toNat = x * 10 ^ (-P).toNat * 10 ^ (-e).toNat := Nat.mul_right_comm _ _ _
      have e6 : x * 10 ^ (-P).toNat * 10 ^ (-e).toNat < y * 10 ^ P.toNat * 10 * 10 ^ (-e).toNat := Nat.mul_lt_mul_of_pos_right k2 (ten_pos _)
      have e7 : y * 10 ^ P.toNat * 10 * 10 ^ (-e).toNat ≤ y * 10 ^ P.toNat * 10 ^ (-e).toNat * 10 ^ (e - P).toNat := by
        rw [Nat.mul_right_comm (y * 10 ^ P.toNat)]
        exact Nat.mul_le_mul_left _ e2
      omega
    · exact c
  · intro he
    have e1 : 10 ^ P.toNat * 10 ^ (-e).toNat = 10 ^ e.toNat * 10 ^ (-P).toNat * 10 ^ (P - e).toNat := by
      rw [← Nat.pow_add, ← Nat.pow_add, ← Nat.pow_add]; congr 1; omega
    have e3 : y * 10 ^ P.toNat * 10 ^ (-e).toNat ≤ x * 10 ^ (-P).toNat * 10 ^ (-e).toNat := Nat.mul_le_mul_right _ k1
    have e4 : y * 10 ^ e.toNat * 10 ^ (-P).toNat * 1 ≤ y * 10 ^ e.toNat * 10 ^ (-P).toNat * 10 ^ (P - e).toNat := Nat.mul_le_mul_left _ (ten_pos _)
    have e5 : y * 10 ^ P.toNat * 10 ^ (-e).toNat = y * 10 ^ e.toNat * 10 ^ (-P).toNat * 10 ^ (P - e).toNat := by rw [Nat.mul_assoc, e1]; grind
    apply Nat.le_of_mul_le_mul_right _ (ten_pos (-P).toNat)
    have e6 : x * 10 ^ (-e).toNat * 10 ^ (-P).toNat = x * 10 ^ (-P).toNat * 10 ^ (-e).toNat := Nat.mul_right_comm _ _ _
    omega
/-- What the reference tells at a number of digits is what the landed code tells there. -/
theorem pm_step {f d up down a c n m Q ex ey : Nat} {place : Int} (h : Pm f d up down a c n m Q place) (hx : (ex : Int) = max ((d : Int) - 1074) 0) (hy : (ey : Int) = max (-((d : Int) - 1074)) 0) (i : Nat) (k : Int) (hk : k = (i : Int) - (place + n))
    (q r y : Nat) (hq : q = f * 2 ^ ex * 10 ^ k.toNat / (2 ^ ey * 10 ^ (-k).toNat)) (hr : r = f * 2 ^ ex * 10 ^ k.toNat % (2 ^ ey * 10 ^ (-k).toNat)) (hyy : y = 2 ^ ey * 10 ^ (-k).toNat) (lo hi : Bool)
    (hlo : lo = decide (decN q (-k) = d * 4503599627370496 + f)) (hhi : hi = (decide (r ≠ 0) && decide (decN (q + 1) (-k) = d * 4503599627370496 + f))) :
    stp (2 ^ down * 10 ^ (c + n)) (f % 2 == 0) (4 * f * (2 ^ up * 10 ^ a)) (bel f d * (2 ^ up * 10 ^ a)) (2 * (2 ^ up * 10 ^ a)) i
      = (if (lo && (!hi || decide (r * 2 < y) || (decide (r * 2 = y) && decide (q % 2 = 0)))) = true then some q else if hi = true then some (q + 1) else none) ∧ 1 ≤ q ∧ q + 1 ≤ 10 ^ (i + 1) := by
  have hU := pm_U h
  have hyp : 0 < y := by rw [hyy]; exact Nat.mul_pos (Nat.two_pow_pos ey) (ten_pos _)
  have key := pm_cross h hx hy i k hk
  rw [← hyy] at hq hr key
  obtain ⟨g1, g2⟩ := cross_div hyp hU key
  rw [← hq] at g1
  rw [← hr] at g2
  have hE : -k = ((c + n : Nat) : Int) - ((a + i : Nat) : Int) := by have := pm_P h; omega
  have hud : up + (OP + 2) = down + d := by rw [OP_eq]; have := h.hu; have := h.hd; omega
  have w1 := low_wit (i := i) (-k) hE h.f1 h.d0 h.d1 h.f0 hud _ _ _ rfl rfl rfl
  have w2 := high_wit (i := i) (-k) hE h.f1 h.d0 h.d1 h.f0 hud _ _ _ rfl rfl rfl
  rw [← g1, ← hlo] at w1
  rw [← g1] at w2
  have hlo' := h.lo
  have hhi' := h.hi
  have hCp : 0 < 2 ^ up * 10 ^ a := Nat.mul_pos (Nat.two_pow_pos _) (ten_pos _)
  have hLp : 0 < bel f d * (2 ^ up * 10 ^ a) * 10 ^ i := by
    refine Nat.mul_pos (Nat.mul_pos ?_ hCp) (ten_pos _)
    rcases bel_cases f d with ⟨hb, _⟩ | ⟨hb, _⟩ <;> omega
  have hR := Nat.mod_lt (4 * f * (2 ^ up * 10 ^ a) * 10 ^ i) hU
  have hq1 : 1 ≤ q := by
    rw [g1, Nat.le_div_iff_mul_le hU, Nat.one_mul]
    exact Nat.le_trans hlo' (Nat.le_mul_of_pos_right _ (ten_pos i))
  have hq2 : q + 1 ≤ 10 ^ (i + 1) := by
    have : q < 10 ^ (i + 1) := by
      rw [g1, Nat.div_lt_iff_lt_mul hU, Nat.pow_succ, show 10 ^ i * 10 * (2 ^ down * 10 ^ (c + n)) = 10 * (2 ^ down * 10 ^ (c + n)) * 10 ^ i by grind]
      exact Nat.mul_lt_mul_of_pos_right hhi' (ten_pos i)
    omega
  refine ⟨?_, hq1, hq2⟩
  have hl0 : 4 * f * (2 ^ up * 10 ^ a) * 10 ^ i % (2 ^ down * 10 ^ (c + n)) = 0 → lo = true := fun e => by rw [w1, e]; exact wit_true.2 (Or.inl hLp)
  unfold stp moreB
  rw [← g1, ← w1, ← w2]
  clear w1 w2 hlo' hhi' hlo hq hr hE key g1
  generalize 4 * f * (2 ^ up * 10 ^ a) * 10 ^ i % (2 ^ down * 10 ^ (c + n)) = R at *
  generalize 2 ^ down * 10 ^ (c + n) = U at *
  have i0 : r = 0 ↔ R = 0 := by
    constructor
    · intro e; rw [e, Nat.zero_mul] at g2
      rcases Nat.mul_eq_zero.1 g2.symm with e | e
      · exact e
      · omega
    · intro e; rw [e, Nat.zero_mul] at g2
      rcases Nat.mul_eq_zero.1 g2 with e | e
      · exact e
      · omega
  have i1 : r * 2 < y ↔ R * 2 < U := by
    rw [← Nat.mul_lt_mul_right (a := U) hU, ← Nat.mul_lt_mul_right (a := y) (b := R * 2) hyp, Nat.mul_right_comm, g2, Nat.mul_right_comm R, Nat.mul_comm y U]
  have i2 : r * 2 = y ↔ R * 2 = U := by
    constructor
    · intro e
      apply Nat.eq_of_mul_eq_mul_right hyp
      rw [Nat.mul_right_comm, ← g2, Nat.mul_right_comm, e, Nat.mul_comm]
    · intro e
      apply Nat.eq_of_mul_eq_mul_right hU
      rw [Nat.mul_right_comm, g2, Nat.mul_right_comm, e, Nat.mul_comm]
  have d0 : decide (r ≠ 0) = decide (R ≠ 0) := by rw [decide_eq_decide, Ne, Ne, i0]
  have d1 : decide (r * 2 < y) = decide (R * 2 < U) := by rw [decide_eq_decide]; exact i1
  have d2 : decide (r * 2 = y) = decide (R * 2 = U) := by rw [decide_eq_decide]; exact i2
  rw [hhi, d0, d1, d2]
  generalize decide (decN (q + 1) (-k) = d * 4503599627370496 + f) = hb at *
  by_cases z : R = 0
  · rw [hl0 z]
    have e1 : decide (R ≠ 0) = false := decide_eq_false (by simpa using z)
    have e2 : decide (U - R < R) = false := decide_eq_false (by omega)
    have e3 : decide (U - R = R) = false := decide_eq_false (by omega)
    rw [e1, e2, e3]
    cases hb <;> simp
  · have e1 : decide (R ≠ 0) = true := decide_eq_true z
    rw [e1, Bool.true_and]
    cases lo
    · cases hb <;> simp
    · cases hb
      · simp
      · rcases Nat.lt_trichotomy (R * 2) U with t | t | t
        · have e2 : decide (U - R < R) = false := decide_eq_false (by omega)
          have e3 : decide (U - R = R) = false := decide_eq_false (by omega)
          rw [e2, e3, decide_eq_true t]
          simp
        · have e2 : decide (U - R < R) = false := decide_eq_false (by omega)
          have e3 : decide (U - R = R) = true := decide_eq_true (by omega)
          have e4 : decide (R * 2 < U) = false := decide_eq_false (by omega)
          rw [e2, e3, e4, decide_eq_true t]
          rcases Nat.mod_two_eq_zero_or_one q with p | p <;> simp [p]
        · have e2 : decide (U - R < R) = true := decide_eq_true (by omega)
          have e4 : decide (R * 2 < U) = false := decide_eq_false (by omega)
          have e5 : decide (R * 2 = U) = false := decide_eq_false (by omega)
          rw [e2, e4, e5]
          simp
/-- How great the landed code's numbers are. -/
def KX : Nat := 10000
theorem KX_eq : KX = 10000 := rfl
theorem pm_K {f d up down a c n m Q : Nat} {place : Int} (h : Pm f d up down a c n m Q place) :
    f * 2 ^ (up + 2) * 10 ^ a < 2 ^ KX ∧ bel f d * 2 ^ up * 10 ^ a < 2 ^ KX ∧ 2 * 2 ^ up * 10 ^ a < 2 ^ KX ∧ 1 * 2 ^ down * 10 ^ c < 2 ^ KX ∧ 1 * 2 ^ down * 10 ^ c * 10 ^ n * 10 < 2 ^ KX := by
  have h1 := h.hu
  have h2 := h.hd
  have h3 := h.hp
  have h4 := h.ha
  have h5 := h.hc
  have hd := h.d1
  have hf := h.f1
  have hn := h.hn
  obtain ⟨l1, l2, _, _⟩ := bitLen_bounds (x := f) (by have := h.f0; omega) (by omega)
  have b1 : up ≤ 1000 := by omega
  have b2 : down ≤ 1100 := by omega
  have b3 : a ≤ 1000 := by omega
  have b4 : c ≤ 1000 := by omega
  have hb2 : bel f d ≤ 2 := by rcases bel_cases f d with ⟨hb, _⟩ | ⟨hb, _⟩ <;> omega
  have pw : ∀ (s t u v : Nat), s < 2 ^ 64 → t + 4 * u + 4 * v + 70 ≤ KX → s * 2 ^ t * 10 ^ u * 10 ^ v * 10 < 2 ^ KX := by
    intro s t u v hs hv
    have p1 := pow_ten_lt u
    have p2 := pow_ten_lt v
    have q1 : s * 2 ^ t ≤ 2 ^ 64 * 2 ^ t := Nat.mul_le_mul_right _ (by omega)
    have q2 : s * 2 ^ t * 10 ^ u ≤ 2 ^ 64 * 2 ^ t * 2 ^ (4 * u) := Nat.mul_le_mul q1 p1
    have q3 : s * 2 ^ t * 10 ^ u * 10 ^ v ≤ 2 ^ 64 * 2 ^ t * 2 ^ (4 * u) * 2 ^ (4 * v) := Nat.mul_le_mul q2 p2
    have q4 : s * 2 ^ t * 10 ^ u * 10 ^ v * 10 ≤ 2 ^ 64 * 2 ^ t * 2 ^ (4 * u) * 2 ^ (4 * v) * 2 ^ 4 := Nat.mul_le_mul q3 (by decide)
    refine Nat.lt_of_le_of_lt q4 ?_
    rw [← Nat.pow_add, ← Nat.pow_add, ← Nat.pow_add, ← Nat.pow_add]
    exact Nat.pow_lt_pow_right (by decide) (by omega)
  have lt10 : ∀ (s t u : Nat), s < 2 ^ 64 → t + 4 * u + 70 ≤ KX → s * 2 ^ t * 10 ^ u < 2 ^ KX := by
    intro s t u hs hv
    have := pw s t u 0 hs (by omega)
    rw [Nat.pow_zero, Nat.mul_one] at this
    omega
  have hK := KX_eq
  exact ⟨lt10 f (up + 2) a (by omega) (by omega), lt10 _ up a (by omega) (by omega), lt10 2 up a (by decide) (by omega), lt10 1 down c (by decide) (by omega), pw 1 down c n (by decide) (by omega)⟩

end Go.Proofs.YtjbnjfdpfkdmeaaDoor
