/-
  What the rows' readings give the walks of layer 15: texts and numbers that came in; the library's variable holds some number.
-/
import Derived.Test.YtflbolbhdiloeaaTtLives
import Derived.Test.YtflbolbhdiloeaaRows
import Derived.OpenShut
import Derived.ChangeArms
import Derived.SizedLaws
import Derived.Carry
import Derived.JoinedCond
import Derived.HandedShaped
import Derived.ShutString
namespace Go.Proofs.Ytflbolbhdiloeaa
set_option maxRecDepth 100000
open Go.ChangeShapes Go.WideShapes Go.ChangeAt Go.RowKit Txt

/-- A text that came in, and its reach. -/
theorem open_text {H : Type} {enc : TypeId × Value → H} {W : World} {v : Value} {d : DataW H} {p : List MemPlace}
    (h0 : DataW.Trod enc Try.prog W 0 (fun _ => true) true 9 v d p) {base : Nat} (hval : Value.okWide Try.prog W .any base 9 v) {ts : List TypeId} {ds : List (DataW H)} (hz : (DataW.weightsEach Try.prog ts ds).all (· ≤ reachBytes) = true) {j : Nat}
    (ht : ts[j]? = some 9) (hd : ds[j]? = some d) : ∃ l : List UInt8, v = .string (bs l) ∧ l.length ≤ 140737488351232 := by
  simp only [Value.okWide, Try.underlying9, Cell.okWide] at hval
  cases v <;> simp_all [Cell.ok]
  next s =>
    obtain ⟨fuel, hf⟩ := h0
    obtain ⟨s', e1, e2, _⟩ := DataW.trod_string Try.underlying9 hf
    simp [Value.cells] at e1
    subst e1
    simp only [Prod.mk.injEq] at e2
    obtain ⟨rfl, _⟩ := e2
    have := sized_string (P := Try.prog) (ts := ts) (ds := ds) (by simpa using hz) ht hd
    exact ⟨s.data.toList, (bs_data s).symm, by unfold reachBytes at this; omega⟩
theorem open_i64 {W : World} {base : Nat} {v : Value} (hval : Value.okWide Try.prog W .any base 2 v) : ∃ k : Int, v = .int .i64 k ∧ -9223372036854775808 ≤ k ∧ k ≤ 9223372036854775807 := by
  simp only [Value.okWide, Try.underlying2, Cell.okWide] at hval
  cases v <;> simp_all [Cell.ok]
  next a n =>
    have h := hval.2
    simp [IntKind.has, IntKind.min, IntKind.max, IntKind.signed, IntKind.bits] at h
    exact ⟨by omega, by omega⟩
theorem open_u16 {W : World} {base : Nat} {v : Value} (hval : Value.okWide Try.prog W .any base 36 v) : ∃ k : Nat, v = .int .u16 (k : Int) ∧ k < 65536 := by
  simp only [Value.okWide, Try.underlying36, Cell.okWide] at hval
  cases v <;> simp_all [Cell.ok]
  next a n =>
    have h := hval.2
    simp [IntKind.has, IntKind.min, IntKind.max, IntKind.signed, IntKind.bits] at h
    exact ⟨n.toNat, by omega, by omega⟩
theorem open_u8 {W : World} {base : Nat} {v : Value} (hval : Value.okWide Try.prog W .any base 5 v) : ∃ k : Nat, v = .int .u8 (k : Int) ∧ k < 256 := by
  simp only [Value.okWide, Try.underlying5, Cell.okWide] at hval
  cases v <;> simp_all [Cell.ok]
  next a n =>
    have h := hval.2
    simp [IntKind.has, IntKind.min, IntKind.max, IntKind.signed, IntKind.bits] at h
    exact ⟨n.toNat, by omega, by omega⟩
theorem mx_of {W : World} (h : W.ShapedOpen Try.prog) : Mx W := Try.laysM143.s1_3 W h

end Go.Proofs.Ytflbolbhdiloeaa
