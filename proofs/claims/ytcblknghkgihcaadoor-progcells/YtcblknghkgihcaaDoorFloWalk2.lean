/-
  The walks of Kind and Before.
-/
import Derived.Test.YtcblknghkgihcaaDoorFloWalk
namespace Go.Proofs.YtcblknghkgihcaaDoor
set_option maxRecDepth 100000
open Go.RowKit Flo

theorem kind_tests {a : Int} (h : U64 a) :
    (FloatKind.f64.format.order a.toNat a.toNat != some .eq) = nanB a ∧
    (FloatKind.f64.format.order a.toNat 0 == some .eq) = equalB a 0 ∧
    (FloatKind.f64.format.order a.toNat 18442240474082181119 == some .lt) = lessB a 18442240474082181119 ∧
    (FloatKind.f64.format.order a.toNat 9218868437227405311 == some .gt) = lessB 9218868437227405311 a ∧
    (FloatKind.f64.format.order a.toNat 9227875636482146304 == some .gt) = lessB 9227875636482146304 a ∧
    (FloatKind.f64.format.order a.toNat 4503599627370496 == some .lt) = lessB a 4503599627370496 := by
  refine ⟨?_, ?_, ?_, ?_, ?_, ?_⟩
  · rw [ne_test h h, equalB_self, Bool.not_not]
  · exact eq_test h (b := 0) ⟨by decide, by decide⟩
  · exact lt_test h (b := 18442240474082181119) ⟨by decide, by decide⟩
  · exact gt_test h (b := 9218868437227405311) ⟨by decide, by decide⟩
  · exact gt_test h (b := 9227875636482146304) ⟨by decide, by decide⟩
  · exact lt_test h (b := 4503599627370496) ⟨by decide, by decide⟩

end Go.Proofs.YtcblknghkgihcaaDoor
