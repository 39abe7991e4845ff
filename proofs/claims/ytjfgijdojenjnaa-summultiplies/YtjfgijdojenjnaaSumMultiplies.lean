/-
  The statement SumMultiplies.
-/
import Derived.Test.YtjfgijdojenjnaaSumPlain
import Derived.Test.YtjfgijdojenjnaaSumRef3
namespace Go.Proofs.Ytjfgijdojenjnaa
open Go.RowKit Dg Flo

set_option maxHeartbeats 1000000 in
theorem sumMultiplies_walk (a b : Int) (w : World) (ha : U64 a) (hb : U64 b) :
    Calls Try.prog 4 #[.int .u64 a, .int .u64 b] w fun e w' => e = .returned (.bool true) ∧ Below w.heap.size w w' := by
  have hn := negZ_u64 ha
  have A1 : Hid (∀ w, _) := fun w => mul_any a b w ha hb
  have a2 := fun w => mul_any b a w hb ha
  rw [mulZ_comm b a] at a2
  have A2 : Hid (∀ w, _) := a2
  have A3 : Hid (∀ w, _) := fun w => refMul_any a b w ha hb
  have s3 := fun w => mul_any (negZ a) b w hn hb
  rw [mulZ_neg ha] at s3
  have S3 : Hid (∀ w, _) := s3
  clear a2 s3
  have HN : Hid (∀ w, _) := fun w => refNegZ_any a w ha
  have HM : Hid (∀ w, _) := fun w => refNegZ_any (mulZ a b) w (mulZ_u64 a b)
  generalize mulZ a b = s at *
  generalize negZ a = na at *
  generalize negZ s = d at *
  go_enter Try.func4, Try.ntmps4
  go_wp2_with fail
  refine (A1.out _).mono ?_
  rintro e w1 ⟨rfl, hb1⟩
  go_wp2_with fail
  refine (A3.out _).mono ?_
  rintro e w2 ⟨rfl, hb2⟩
  replace hb2 := hb1.trans (hb2.mono hb1.size)
  go_wp2_with fail
  refine (A2.out _).mono ?_
  rintro e w3 ⟨rfl, hb3⟩
  replace hb3 := hb2.trans (hb3.mono hb2.size)
  go_wp2_with fail
  refine (HN.out _).mono ?_
  rintro e w' ⟨rfl, rfl⟩
  go_wp2_with fail
  refine (S3.out _).mono ?_
  rintro e w4 ⟨rfl, hb4⟩
  replace hb4 := hb3.trans (hb4.mono hb3.size)
  go_wp2_with fail
  refine (HM.out _).mono ?_
  rintro e w' ⟨rfl, rfl⟩
  go_wp2_with fail
  refine (sumLives_any _).mono ?_
  rintro e w7 ⟨rfl, hb7⟩
  go_wp2
  go_ret
  exact ⟨rfl, hb4.trans (hb7.mono hb4.size)⟩

end Go.Proofs.Ytjfgijdojenjnaa
