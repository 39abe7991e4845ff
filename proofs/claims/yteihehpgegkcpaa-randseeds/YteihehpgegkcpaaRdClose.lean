/-
  What the rows' readings give the walks of layer 16: a text that came in, and its reach.
-/
import Derived.Test.YteihehpgegkcpaaRdWalk
import Derived.OpenShut
import Derived.ChangeArms
import Derived.SizedLaws
import Derived.Carry
import Derived.JoinedCond
import Derived.HandedShaped
import Derived.ShutString
namespace Go.Proofs.Yteihehpgegkcpaa
open Go.ChangeShapes Go.WideShapes Go.ChangeAt Go.RowKit

theorem open_text {H : Type} {enc : TypeId × Value → H} {W : World} {v : Value} {d : DataW H} {p : List MemPlace}
    (h0 : DataW.Trod enc Try.prog W 0 (fun _ => true) true 9 v d p) {base : Nat} (hval : Value.okWide Try.prog W .any base 9 v) {ts : List TypeId} {ds : List (DataW H)} (hz : (DataW.weightsEach Try.prog ts ds).all (· ≤ reachBytes) = true) {j : Nat}
    (ht : ts[j]? = some 9) (hd : ds[j]? = some d) : ∃ S : ByteArray, v = .string S ∧ S.size ≤ 140737488351232 := by
  simp only [Value.okWide, Try.underlying9, Cell.okWide] at hval
  cases v <;> simp_all [Cell.ok]
  next s =>
    obtain ⟨fuel, hf⟩ := h0
    obtain ⟨s', e1, e2, _⟩ := DataW.trod_string Try.underlying9 hf
    simp [Value.cells] at e1
    subst e1
    simp only [Prod.mk.injEq] at e2
    obtain ⟨rfl, _⟩ := e2
    have h := sized_string (P := Try.prog) (ts := ts) (ds := ds) (by simpa using hz) ht hd
    have e : s.data.toList.length = s.size := rfl
    unfold reachBytes at h; omega
end Go.Proofs.Yteihehpgegkcpaa
