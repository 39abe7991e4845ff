/-
  Layer 15: what the laws call 'lives'; TextParts, TextFinds, TextCuts walked.
-/
import Derived.Test.YtflbolbhdiloeaaTtFind
namespace Go.Proofs.Ytflbolbhdiloeaa
set_option maxRecDepth 100000
open Go.RowKit Txt Tt

theorem lives_any (w : World) (hm : Mx w) : Calls Try.prog 13 #[] w fun e w' => e = .returned (.bool true) ∧ Below w.heap.size w w' := by
  have hf := find_any [97, 88, 98, 88] [88] 3 w (by decide) (by decide) (by decide) hm
  have hs := fun w => sub_any [104, 101, 108, 108, 111] (-3) (-2) w (by decide) (by decide) (by decide) (by decide) (by decide)
  rw [show fndZ [97, 88, 98, 88] [88] 3 = 4 by decide, show fndB [97, 88, 98, 88] [88] 3 = true by decide] at hf
  rw [show subL [104, 101, 108, 108, 111] (-3) (-2) = [108, 108] by decide] at hs
  have hf' : Calls Try.prog 14 #[.string ⟨#[97, 88, 98, 88]⟩, .string ⟨#[88]⟩, .int .i64 3] w fun e w' => e = .returned (.tuple #[.int .i64 4, .bool true]) ∧ w' = w := hf
  have hs' : ∀ w, Calls Try.prog 11 #[.string ⟨#[104, 101, 108, 108, 111]⟩, .int .i64 (-3), .int .i64 (-2)] w fun e w' => e = .returned (.string ⟨#[108, 108]⟩) ∧ Below w.heap.size w w' := hs
  clear hf hs
  go_enter Try.func13, Try.ntmps13
  go_wp2_with fail
  refine hf'.mono ?_
  rintro e w' ⟨rfl, rfl⟩
  go_wp2_with fail
  refine (hs' _).mono ?_
  rintro e w'' ⟨rfl, hb⟩
  go_wp2
  go_ret
  exact ⟨rfl, hb⟩

set_option maxHeartbeats 1000000 in
theorem textParts_walk (l : List UInt8) (i j : Int) (w : World) (hm : Mx w) (hl : l.length ≤ 140737488351232) (hi0 : -9223372036854775808 ≤ i) (hi1 : i ≤ 9223372036854775807) (hj0 : -9223372036854775808 ≤ j) (hj1 : j ≤ 9223372036854775807) :
    Calls Try.prog 3 #[.string (bs l), .int .i64 i, .int .i64 j] w fun e w' => e = .returned (.bool true) ∧ Below w.heap.size w w' := by
  have h1 := byte_any l i w hl hi0 hi1
  have h2 := rbyte_any l i w hl hi0 hi1
  have h3 := fun w => sub_any l i j w hl hi0 hi1 hj0 hj1
  have h4 := fun w => rsub_any l i j w hl hi0 hi1 hj0 hj1
  have hp := hm.pos
  generalize bs (subL l i j) = R at *
  generalize bs l = L at *
  generalize bytZ l i = Z at *
  generalize bytB l i = B at *
  go_enter Try.func3, Try.ntmps3
  go_wp2_with fail
  refine h1.mono ?_
  rintro e w' ⟨rfl, rfl⟩
  go_wp2_with fail
  refine h2.mono ?_
  rintro e w' ⟨rfl, rfl⟩
  go_wp2_with fail
  refine (h3 _).mono ?_
  rintro e w1 ⟨rfl, hb1⟩
  go_wp2_with fail
  refine (h4 _).mono ?_
  rintro e w2 ⟨rfl, hb2⟩
  have HB : Hid (Below w'.heap.size w' w2) := hb1.trans (hb2.mono hb1.size)
  have hm2 : Mx w2 := hm.below HB.out hp
  clear hb1 hb2
  go_wp2_with fail
  refine (lives_any _ hm2).mono ?_
  rintro e w3 ⟨rfl, hb3⟩
  have HB3 : Hid (Below w'.heap.size w' w3) := HB.out.trans (hb3.mono HB.out.size)
  clear hb3
  go_wp2
  go_ret
  exact ⟨rfl, HB3.out⟩

end Go.Proofs.Ytflbolbhdiloeaa
