/-
  The statement SumAdds.
-/
import Derived.Test.YtjfgijdojenjnaaSumPlain
import Derived.Test.YtjfgijdojenjnaaSumRef3
namespace Go.Proofs.Ytjfgijdojenjnaa
open Go.RowKit Dg Flo

set_option maxHeartbeats 1000000 in
theorem sumAdds_walk (a b : Int) (w : World) (ha : U64 a) (hb : U64 b) :
    Calls Try.prog 3 #[.int .u64 a, .int .u64 b] w fun e w' => e = .returned (.bool true) ∧ Below w.heap.size w w' := by
  have hn := negZ_u64 hb
  have A1 : Hid (∀ w, _) := fun w => add_any a b w ha hb
  have a2 := fun w => add_any b a w hb ha
  rw [addZ_comm hb ha] at a2
  have A2 : Hid (∀ w, _) := a2
  have A3 : Hid (∀ w, _) := fun w => refAdd_any a b w ha hb
  have S1 : Hid (∀ w, _) := fun w => sub_any a b w ha hb
  have S2 : Hid (∀ w, _) := fun w => refSub_any a b w ha hb
  have s3 := fun w => sub_any a (negZ b) w ha hn
  rw [sub_neg hb] at s3
  have S3 : Hid (∀ w, _) := s3
  clear a2 s3
  have HN : Hid (∀ w, _) := fun w => refNegZ_any b w hb
  generalize negZ b = nb at *
  generalize addZ a b = s at *
  generalize subZ a b = d at *
  go_enter Try.func3, Try.ntmps3
  go_wp2_with fail
  refine (A1.out _).mono ?_
  rintro e w1 ⟨rfl, hb1⟩
  go_wp2_with fail
  refine (A3.out _).mono ?_
  rintro e w2 ⟨rfl, hb2⟩
  replace hb2 := hb1.trans (hb2.mono hb1.size)
  go_wp2_with fail
  refine (A2.out _).mono ?_
  rintro e w3 ⟨rfl, hb3⟩
  replace hb3 := hb2.trans (hb3.mono hb2.size)
  go_wp2_with fail
  refine (S1.out _).mono ?_
  rintro e w4 ⟨rfl, hb4⟩
  replace hb4 := hb3.trans (hb4.mono hb3.size)
  go_wp2_with fail
  refine (S2.out _).mono ?_
  rintro e w5 ⟨rfl, hb5⟩
  replace hb5 := hb4.trans (hb5.mono hb4.size)
  go_wp2_with fail
  refine (HN.out _).mono ?_
  rintro e w' ⟨rfl, rfl⟩
  go_wp2_with fail
  refine (S3.out _).mono ?_
  rintro e w6 ⟨rfl, hb6⟩
  replace hb6 := hb5.trans (hb6.mono hb5.size)
  go_wp2_with fail
  refine (sumLives_any _).mono ?_
  rintro e w7 ⟨rfl, hb7⟩
  go_wp2
  go_ret
  exact ⟨rfl, hb6.trans (hb7.mono hb6.size)⟩

end Go.Proofs.Ytjfgijdojenjnaa
