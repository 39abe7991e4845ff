/-
  Layer 15: Char of both sides and the reference's Join, walked; TextMakes.
-/
import Derived.Test.YtflbolbhdiloeaaTtRep
namespace Go.Proofs.Ytflbolbhdiloeaa
set_option maxRecDepth 100000
open Go.RowKit Txt Tt

/-- Char: the text, and the error. -/
def chrT (n : Int) : List UInt8 := if n < 0 ∨ 255 < n then [] else [UInt8.ofNat n.toNat]
def chrE (n : Int) : Int := if n < 0 ∨ 255 < n then 1 else 0
theorem conv1 (w : World) (n : Int) : (convert 42 9 (.slice (some ⟨w.heap.size, 0, none⟩) 1 1)).run Try.prog (w.alloc (.cells #[.int .u8 n] 5)) = .ok (.string (bs [UInt8.ofNat n.toNat])) (w.alloc (.cells #[.int .u8 n] 5)) := by
  have := run_convert_bytes_arg (P := Try.prog) (w.alloc (.cells #[.int .u8 n] 5)) 42 5 Try.underlying42 Try.underlying5 w.heap.size 0 1 1 [n] rfl (fun i hi => by
    have : i = 0 := by omega
    subst this
    rw [World.cell?_alloc_new]
    rfl) 9 Try.underlying9
  rw [this]
  rfl

set_option maxHeartbeats 1000000 in
theorem char_any (n : Int) (w : World) (h0 : -9223372036854775808 ≤ n) (h1 : n ≤ 9223372036854775807) :
    Calls Try.prog 18 #[.int .i64 n] w fun e w' => e = .returned (.tuple #[.string (bs (chrT n)), .int .i64 (chrE n)]) ∧ Below w.heap.size w w' := by
  unfold chrT chrE
  by_cases c1 : n < 0
  · rw [if_pos (.inl c1), if_pos (.inl c1)]
    go_enter Try.func18, Try.ntmps18
    go_wp2
    go_ret2
    exact ⟨rfl, Below.refl _ _⟩
  · by_cases c2 : n > 255
    · rw [if_pos (.inr c2), if_pos (.inr c2)]
      go_enter Try.func18, Try.ntmps18
      go_wp2
      go_ret2
      exact ⟨rfl, Below.refl _ _⟩
    · have hc := conv1 w n
      rw [if_neg (by omega), if_neg (by omega)]
      generalize bs [UInt8.ofNat n.toNat] = R at *
      go_enter Try.func18, Try.ntmps18
      go_wp2
      go_ret2
      exact ⟨rfl, (Below.refl _ w).alloc (Nat.le_refl _) _⟩

set_option maxHeartbeats 1000000 in
theorem rchar_any (n : Int) (w : World) (h0 : -9223372036854775808 ≤ n) (h1 : n ≤ 9223372036854775807) :
    Calls Try.prog 19 #[.int .i64 n] w fun e w' => e = .returned (.tuple #[.string (bs (chrT n)), .int .i64 (chrE n)]) ∧ Below w.heap.size w w' := by
  unfold chrT chrE
  by_cases c1 : n < 0
  · rw [if_pos (.inl c1), if_pos (.inl c1)]
    go_enter Try.func19, Try.ntmps19
    go_wp2
    go_ret2
    exact ⟨rfl, Below.refl _ _⟩
  · by_cases c2 : n > 255
    · rw [if_pos (.inr c2), if_pos (.inr c2)]
      go_enter Try.func19, Try.ntmps19
      go_wp2
      go_ret2
      exact ⟨rfl, Below.refl _ _⟩
    · have hc := conv1 w n
      rw [if_neg (by omega), if_neg (by omega)]
      generalize bs [UInt8.ofNat n.toNat] = R at *
      go_enter Try.func19, Try.ntmps19
      go_wp2
      go_ret2
      exact ⟨rfl, (Below.refl _ w).alloc (Nat.le_refl _) _⟩

set_option maxHeartbeats 1000000 in
theorem rjoin_any (a b : List UInt8) (w : World) (ha : a.length ≤ 140737488351232) (hb : b.length ≤ 140737488351232) :
    Calls Try.prog 17 #[.string (bs a), .string (bs b)] w fun e w' => e = .returned (.tuple #[.string (bs (joinL a b)), .int .i64 (joinE a b)]) ∧ w' = w := by
  have h1 := bs_size a
  have h2 := bs_size b
  unfold joinL joinE
  by_cases c : (a.length : Int) + b.length > 16384
  · rw [if_pos (by omega), if_pos (by omega)]
    generalize bs a = A at *
    generalize bs b = B at *
    go_enter Try.func17, Try.ntmps17
    go_wp2
    go_ret2
    exact ⟨rfl, rfl⟩
  · rw [if_neg (by omega), if_neg (by omega)]
    have hap := bs_append a b
    rw [← hap]
    have hcc : ¬ 9223372036854775807 < a.length + b.length := by omega
    clear hap
    generalize bs a = A at *
    generalize bs b = B at *
    go_enter Try.func17, Try.ntmps17
    go_wp2
    go_ret2
    exact ⟨rfl, rfl⟩

set_option maxHeartbeats 4000000 in
theorem textMakes_walk (l t : List UInt8) (n : Int) (w : World) (hm : Mx w) (hl : l.length ≤ 140737488351232) (ht : t.length ≤ 140737488351232) (h0 : -9223372036854775808 ≤ n) (h1 : n ≤ 9223372036854775807) :
    Calls Try.prog 5 #[.string (bs l), .string (bs t), .int .i64 n] w fun e w' => e = .returned (.bool true) ∧ Below w.heap.size w w' := by
  have hp := hm.pos
  have k1 := join_any l t w hl ht
  have k2 := rjoin_any l t w hl ht
  have k3 := char_any n w h0 h1
  have G : ∀ {f : FuncId} {xs : Array Value} {R : Value}, (∀ w1, Calls Try.prog f xs w1 fun e w' => e = .returned R ∧ Below w1.heap.size w1 w') → ∀ w1, Below w.heap.size w w1 → Calls Try.prog f xs w1 fun e w' => e = .returned R ∧ Below w.heap.size w w' := fun h w1 hb =>
    (h w1).mono fun e w' ⟨a, b⟩ => ⟨a, hb.trans (b.mono hb.size)⟩
  have k4 := G (fun w1 => rchar_any n w1 h0 h1)
  have k5 := G (fun w1 => up_any l w1 hl)
  have k6 := G (fun w1 => rup_any l w1 hl)
  have k7 := G (fun w1 => rev_any l w1 hl)
  have k8 := G (fun w1 => rrev_any l w1 hl)
  have k9 := fun w1 => less_any l t w1
  have k10 := G (fun w1 => rless_any l t w1 hl)
  have k11 := G (fun w1 => rep_any l n w1 hl h0 h1)
  have k12 := G (fun w1 => rrep_any l n w1 hl h1)
  have k13 : ∀ w1, Below w.heap.size w w1 → Calls Try.prog 13 #[] w1 fun e w' => e = .returned (.bool true) ∧ Below w.heap.size w w' := fun w1 hb =>
    (lives_any w1 (hm.below hb hp)).mono fun e w' ⟨a, b⟩ => ⟨a, hb.trans (b.mono hb.size)⟩
  clear G hm hp
  generalize bs (joinL l t) = J at *
  generalize joinE l t = JE at *
  generalize bs (chrT n) = CT at *
  generalize chrE n = CE at *
  generalize bs (l.map upB) = U at *
  generalize bs l.reverse = V at *
  generalize Op.bytesLess l t = LB at *
  generalize bs (repT l n) = RT at *
  generalize repE l n = RE at *
  generalize bs l = L at *
  generalize bs t = T at *
  go_enter Try.func5, Try.ntmps5
  go_wp2_with fail
  refine k1.mono ?_
  rintro e w' ⟨rfl, rfl⟩
  go_wp2_with fail
  refine k2.mono ?_
  rintro e w' ⟨rfl, rfl⟩
  go_wp2_with fail
  refine k3.mono ?_
  rintro e w1 ⟨rfl, b1⟩
  have B1 : Hid _ := b1
  clear b1
  go_wp2_with fail
  refine (k4 _ B1.out).mono ?_
  rintro e w2 ⟨rfl, b2⟩
  have B2 : Hid _ := b2
  clear b2
  go_wp2_with fail
  refine (k5 _ B2.out).mono ?_
  rintro e w3 ⟨rfl, b3⟩
  have B3 : Hid _ := b3
  clear b3
  go_wp2_with fail
  refine (k6 _ B3.out).mono ?_
  rintro e w4 ⟨rfl, b4⟩
  have B4 : Hid _ := b4
  clear b4
  go_wp2_with fail
  refine (k7 _ B4.out).mono ?_
  rintro e w5 ⟨rfl, b5⟩
  have B5 : Hid _ := b5
  clear b5
  go_wp2_with fail
  refine (k8 _ B5.out).mono ?_
  rintro e w6 ⟨rfl, b6⟩
  have B6 : Hid _ := b6
  clear b6
  go_wp2_with fail
  refine (k9 _).mono ?_
  rintro e w7 ⟨rfl, rfl⟩
  go_wp2_with fail
  refine (k10 _ B6.out).mono ?_
  rintro e w8 ⟨rfl, b8⟩
  have B8 : Hid _ := b8
  clear b8
  go_wp2_with fail
  refine (k11 _ B8.out).mono ?_
  rintro e w9 ⟨rfl, b9⟩
  have B9 : Hid _ := b9
  clear b9
  go_wp2_with fail
  refine (k12 _ B9.out).mono ?_
  rintro e w10 ⟨rfl, b10⟩
  have B10 : Hid _ := b10
  clear b10
  go_wp2_with fail
  refine (k13 _ B10.out).mono ?_
  rintro e w11 ⟨rfl, b11⟩
  have B11 : Hid _ := b11
  clear b11
  go_wp2
  go_ret
  exact ⟨rfl, B11.out⟩

end Go.Proofs.Ytflbolbhdiloeaa
