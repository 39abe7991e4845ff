/-
  The statement WholeInts.
-/
import Derived.Test.YtpjgmlhchaojaaaWholeIs
namespace Go.Proofs.Ytpjgmlhchaojaaa
open Go.RowKit Dg Flo

set_option maxHeartbeats 1000000 in
theorem wholeInts_walk (n : Int) (w : World) (h0 : -9223372036854775808 ≤ n) (h1 : n ≤ 9223372036854775807) :
    Calls Try.prog 3 #[.int .i64 n] w fun e w' => e = .returned (.bool true) ∧ Below w.heap.size w w' := by
  have HF : Hid (∀ w, _) := fun w => fromInt_any n w
  have HR : Hid (∀ w, _) := fun w => refFromInt_any n w h0 h1
  have HI : Hid (∀ w, _) := fun w => wis_any (fromZ n) w (fromZ_u64 n)
  have HT : Hid (∀ w, _) := fun w => toInt_any (fromZ n) w (fromZ_u64 n)
  have HS : Hid (∀ w, _) := fun w => size_any n w h0 h1
  have HG : Hid (toB (fromZ n) = true → ∀ w, Calls Try.prog 8 #[.int .i64 (toI (fromZ n))] w fun e w' => e = .returned (.int .u64 (fromZ n)) ∧ Below w.heap.size w w') := by
    intro h w
    have := fromInt_any (toI (fromZ n)) w
    rw [from_twice h0 h1 h] at this
    exact this
  rw [from_is h0 h1] at HI
  have hN : n.natAbs ≤ 9223372036854775808 := by omega
  have cs : (decide (((n.natAbs : Nat) : Int) ≤ 9007199254740992) = true ∧ toB (fromZ n) = true ∧ toI (fromZ n) = n) ∨ (decide (((n.natAbs : Nat) : Int) ≤ 9007199254740992) = false) := by
    by_cases c : n.natAbs ≤ 9007199254740992
    · exact Or.inl ⟨decide_eq_true (by omega), from_back c⟩
    · exact Or.inr (decide_eq_false (by omega))
  generalize toB (fromZ n) = tb at *
  generalize toI (fromZ n) = ti at *
  generalize fromZ n = A at *
  generalize n.natAbs = N at *
  clear hN
  go_enter Try.func3, Try.ntmps3
  go_wp2_with fail
  refine (HF.out _).mono ?_
  rintro e w1 ⟨rfl, hb1⟩
  go_wp2_with fail
  refine (HR.out _).mono ?_
  rintro e w2 ⟨rfl, hb2⟩
  replace hb2 := hb1.trans (hb2.mono hb1.size)
  clear hb1
  go_wp2_with fail
  refine (HI.out _).mono ?_
  rintro e w3 ⟨rfl, hb3⟩
  replace hb3 := hb2.trans (hb3.mono hb2.size)
  clear hb2
  go_wp2_with fail
  refine (HT.out _).mono ?_
  rintro e w4 ⟨rfl, hb4⟩
  replace hb4 := hb3.trans (hb4.mono hb3.size)
  clear hb3
  go_wp2_with fail
  refine (HS.out _).mono ?_
  rintro e w' ⟨rfl, hw'⟩
  rw [hw']
  clear hw' w'
  rcases cs with ⟨c1, rfl, rfl⟩ | c1
  · go_wp2_with fail
    refine (wlives_any _).mono ?_
    rintro e w7 ⟨rfl, hb7⟩
    go_wp2
    go_ret
    exact ⟨rfl, hb4.trans (hb7.mono hb4.size)⟩
  · cases tb
    · go_wp2_with fail
      refine (wlives_any _).mono ?_
      rintro e w7 ⟨rfl, hb7⟩
      go_wp2
      go_ret
      exact ⟨rfl, hb4.trans (hb7.mono hb4.size)⟩
    · go_wp2_with fail
      refine (HG.out (by simp) _).mono ?_
      rintro e w5 ⟨rfl, hb5⟩
      replace hb5 := hb4.trans (hb5.mono hb4.size)
      clear hb4
      go_wp2_with fail
      refine (wlives_any _).mono ?_
      rintro e w7 ⟨rfl, hb7⟩
      go_wp2
      go_ret
      exact ⟨rfl, hb5.trans (hb7.mono hb5.size)⟩

end Go.Proofs.Ytpjgmlhchaojaaa
