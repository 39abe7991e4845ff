/-
  Layer 15: Join walked; TextFinds, TextCuts walked.
-/
import Derived.Test.YtflbolbhdiloeaaTtLives
namespace Go.Proofs.Ytflbolbhdiloeaa
set_option maxRecDepth 100000
open Go.RowKit Txt Tt

set_option maxHeartbeats 1000000 in
theorem textFinds_walk (l t : List UInt8) (f : Int) (w : World) (hm : Mx w) (hl : l.length ≤ 140737488351232) (ht : t.length ≤ 140737488351232) (h0 : -9223372036854775808 ≤ f) (h1 : f ≤ 9223372036854775807) :
    Calls Try.prog 4 #[.string (bs l), .string (bs t), .int .i64 f] w fun e w' => e = .returned (.bool true) ∧ Below w.heap.size w w' := by
  have hsz := bs_size l
  have htz := bs_size t
  by_cases c : (l.length : Int) > 3000
  · generalize bs l = L at *
    generalize bs t = T at *
    go_enter Try.func4, Try.ntmps4
    go_wp2_with fail
    refine (lives_any _ hm).mono ?_
    rintro e w3 ⟨rfl, hb3⟩
    go_wp2
    go_ret
    exact ⟨rfl, hb3⟩
  · have hf := find_any l t f w (by omega) h0 h1 hm
    have hr := rfind_any l t f w hl ht h0 h1
    have hp := hm.pos
    have HS : Hid (fndB l t f = true → 1 ≤ fndZ l t f ∧ fndZ l t f + t.length - 1 ≤ l.length ∧ subL l (fndZ l t f) (fndZ l t f + t.length - 1) = t) := fnd_stands
    cases cb : fndB l t f with
    | false =>
      rw [cb] at hf hr
      generalize fndZ l t f = Z at *
      generalize bs l = L at *
      generalize bs t = T at *
      clear HS
      go_enter Try.func4, Try.ntmps4
      go_wp2_with fail
      refine hf.mono ?_
      rintro e w' ⟨rfl, rfl⟩
      go_wp2_with fail
      refine hr.mono ?_
      rintro e w' ⟨rfl, rfl⟩
      go_wp2_with fail
      refine (lives_any _ hm).mono ?_
      rintro e w3 ⟨rfl, hb3⟩
      go_wp2
      go_ret
      exact ⟨rfl, hb3⟩
    | true =>
      obtain ⟨z1, z2, z3⟩ := HS.out cb
      have hs := sub_any l (fndZ l t f) (fndZ l t f + t.length - 1) w hl (by omega) (by omega) (by omega) (by omega)
      rw [z3] at hs
      rw [cb] at hf hr
      clear z3 HS cb
      generalize fndZ l t f = Z at *
      generalize bs l = L at *
      generalize bs t = T at *
      go_enter Try.func4, Try.ntmps4
      go_wp2_with fail
      refine hf.mono ?_
      rintro e w' ⟨rfl, rfl⟩
      go_wp2_with fail
      refine hr.mono ?_
      rintro e w' ⟨rfl, rfl⟩
      go_wp2_with fail
      refine hs.mono ?_
      rintro e w2 ⟨rfl, hb2⟩
      have hm2 : Mx w2 := hm.below hb2 hp
      have HB : Hid (Below w'.heap.size w' w2) := hb2
      clear hb2
      go_wp2_with fail
      refine (lives_any _ hm2).mono ?_
      rintro e w3 ⟨rfl, hb3⟩
      have HB3 : Hid (Below w'.heap.size w' w3) := HB.out.trans (hb3.mono HB.out.size)
      clear hb3
      go_wp2
      go_ret
      exact ⟨rfl, HB3.out⟩

/-- Join: what is joined, and the error. -/
def joinL (a b : List UInt8) : List UInt8 := if a.length + b.length > 16384 then [] else a ++ b
def joinE (a b : List UInt8) : Int := if a.length + b.length > 16384 then 2 else 0

set_option maxHeartbeats 1000000 in
theorem join_any (a b : List UInt8) (w : World) (ha : a.length ≤ 140737488351232) (hb : b.length ≤ 140737488351232) :
    Calls Try.prog 16 #[.string (bs a), .string (bs b)] w fun e w' => e = .returned (.tuple #[.string (bs (joinL a b)), .int .i64 (joinE a b)]) ∧ w' = w := by
  have h1 := bs_size a
  have h2 := bs_size b
  unfold joinL joinE
  by_cases c : (a.length : Int) + b.length > 16384
  · rw [if_pos (by omega), if_pos (by omega)]
    generalize bs a = A at *
    generalize bs b = B at *
    go_enter Try.func16, Try.ntmps16
    go_wp2
    go_ret2
    exact ⟨rfl, rfl⟩
  · rw [if_neg (by omega), if_neg (by omega)]
    have hap := bs_append a b
    rw [← hap]
    have hcc : ¬ 9223372036854775807 < a.length + b.length := by omega
    clear hap
    generalize bs a = A at *
    generalize bs b = B at *
    go_enter Try.func16, Try.ntmps16
    go_wp2
    go_ret2
    exact ⟨rfl, rfl⟩

set_option maxHeartbeats 1000000 in
theorem textCuts_walk (l : List UInt8) (k : Nat) (w : World) (hm : Mx w) (hl : l.length ≤ 140737488351232) (hk : k < 65536) :
    Calls Try.prog 6 #[.string (bs l), .int .u16 (k : Int)] w fun e w' => e = .returned (.bool true) ∧ Below w.heap.size w w' := by
  have hsz := bs_size l
  by_cases c : (l.length : Int) > 16384
  · generalize bs l = L at *
    go_enter Try.func6, Try.ntmps6
    go_wp2_with fail
    refine (lives_any _ hm).mono ?_
    rintro e w3 ⟨rfl, hb3⟩
    go_wp2
    go_ret
    exact ⟨rfl, hb3⟩
  · obtain ⟨i, hi⟩ : ∃ i : Nat, i = k % (l.length + 1) := ⟨_, rfl⟩
    have hil : i ≤ l.length := by have := Nat.mod_lt k (show 0 < l.length + 1 by omega); omega
    have hir : (k : Int) % ((l.length : Int) + 1) = (i : Int) := by rw [hi, Int.natCast_emod, Int.natCast_add]; rfl
    have hs1 := fun w => sub_any l 1 i w hl (by omega) (by omega) (by omega) (by omega)
    have hs2 := fun w => sub_any l ((i : Int) + 1) l.length w hl (by omega) (by omega) (by omega) (by omega)
    have hjn := cut_join l i hil
    have q1 := sub_len l 1 i
    have q2 := sub_len l ((i : Int) + 1) l.length
    have hj := fun w => join_any (subL l 1 i) (subL l ((i : Int) + 1) l.length) w (by omega) (by omega)
    have e1 : joinL (subL l 1 i) (subL l ((i : Int) + 1) l.length) = l := by
      unfold joinL
      rw [if_neg, hjn]
      have := congrArg List.length hjn
      rw [List.length_append] at this
      omega
    have e2 : joinE (subL l 1 i) (subL l ((i : Int) + 1) l.length) = 0 := by
      unfold joinE
      rw [if_neg]
      have := congrArg List.length hjn
      rw [List.length_append] at this
      omega
    rw [e1, e2] at hj
    have hp := hm.pos
    clear e1 e2 hjn q1 q2 hi
    generalize bs (subL l 1 i) = S1 at *
    generalize bs (subL l ((i : Int) + 1) l.length) = S2 at *
    generalize bs l = L at *
    generalize l.length = n at *
    go_enter Try.func6, Try.ntmps6
    go_wp2_with fail
    refine (hs1 _).mono ?_
    rintro e w1 ⟨rfl, hb1⟩
    go_wp2_with fail
    refine (hs2 _).mono ?_
    rintro e w2 ⟨rfl, hb2⟩
    have HB : Hid (Below w.heap.size w w2) := hb1.trans (hb2.mono hb1.size)
    have hm2 : Mx w2 := hm.below HB.out hp
    clear hb1 hb2
    go_wp2_with fail
    refine (hj _).mono ?_
    rintro e w3 ⟨rfl, rfl⟩
    go_wp2_with fail
    refine (lives_any _ hm2).mono ?_
    rintro e w4 ⟨rfl, hb3⟩
    have HB3 : Hid (Below w.heap.size w w4) := HB.out.trans (hb3.mono HB.out.size)
    clear hb3
    go_wp2
    go_ret
    exact ⟨rfl, HB3.out⟩

end Go.Proofs.Ytflbolbhdiloeaa
