/-
  What the rows' readings give the walks of layer 20: numbers, bytes, rows of bytes, calls that came in.
-/
import Derived.Test.YtgkgflkcnigeaaaDkMem
import Derived.Test.YtgkgflkcnigeaaaRows
import Derived.WalkKit
import Derived.ProofKit
import Derived.OpenShut
import Derived.ChangeArms
import Derived.SizedLaws
import Derived.Carry
import Derived.JoinedCond
import Derived.HandedShaped
import Derived.Lib.LaidTab
import Derived.ChangeSlices
namespace Go.Proofs.Ytgkgflkcnigeaaa
set_option maxRecDepth 100000
open Go.ChangeShapes Go.WideShapes Go.ChangeAt Go.RowKit Txt

namespace Dk
theorem cBytes : Try.prog.cellsOf 33 = 1 := by kernel_rfl
theorem cInt : Try.prog.cellsOf 3 = 1 := by kernel_rfl
theorem cStr : Try.prog.cellsOf 9 = 1 := by kernel_rfl
theorem cU8 : Try.prog.cellsOf 5 = 1 := by kernel_rfl
theorem b8 : Try.prog.bytesOf 5 = 1 := by kernel_rfl
theorem sm_at {α : Type} {l : List α} {n i : Nat} (h : l.length = n) (hi : i < n) : ∃ y, l[i]? = some y := ⟨l[i]'(by omega), List.getElem?_eq_getElem (by omega)⟩
theorem addm (b o n : Nat) : Addr.add ⟨b, o, none⟩ n = ⟨b, o + n, none⟩ := by unfold Addr.add; split <;> simp_all
theorem spotn {W : World} {a : Addr} {u : Value} (h : W.cell? a = some u) : a.spot = none := by
  obtain ⟨b, o, s⟩ := a
  cases s with
  | none => rfl
  | some k =>
    unfold World.cell? at h
    split at h <;> simp at h
theorem cellsN {W : World} {a : Addr} {n : Nat} {cs : List Value} (h : W.cells? 0 a n = some cs) : cs.length = n ∧ ∀ t, t < n → W.cell? (a.add t) = cs[t]? := by
  unfold World.cells? at h
  rw [if_pos (Nat.zero_le _)] at h
  refine ⟨(Lib.mapM_length h).trans (by simp), fun t ht => ?_⟩
  obtain ⟨b, e, f⟩ := Lib.mapM_at h t t (by simp [ht])
  rw [e]
  exact f
theorem list1 {l : List Value} (h : l.length = 1) : ∃ a, l = [a] := by
  match l, h with
  | [a], _ => exact ⟨a, rfl⟩
theorem list2 {l : List Value} (h : l.length = 2) : ∃ a b, l = [a, b] := by
  match l, h with
  | [a, b], _ => exact ⟨a, b, rfl⟩
theorem list3 {l : List Value} (h : l.length = 3) : ∃ a b c, l = [a, b, c] := by
  match l, h with
  | [a, b, c], _ => exact ⟨a, b, c, rfl⟩
theorem list5 {l : List Value} (h : l.length = 5) : ∃ a b c d e, l = [a, b, c, d, e] := by
  match l, h with
  | [a, b, c, d, e], _ => exact ⟨a, b, c, d, e, rfl⟩
/-- Bytes that came in, as they were read: what they are, and their reach. -/
theorem bytes_trod {H : Type} {enc : TypeId × Value → H} {W : World} {sp : Nat → Bool} {held : Bool} {fuel : Nat} {u : Value} {x : DataW H × List MemPlace} (h : DataW.trod enc Try.prog W 0 sp held fuel 33 [u] = some x)
    (hw : ∀ m ∈ x.1.weights Try.prog 33, m ≤ reachBytes) : ∃ l, BR W u l ∧ l.length ≤ 140737488351232 := by
  rcases open_ints Try.underlying33 Try.underlying5 (by kernel_rfl) h with ⟨hcs, hx⟩ | ⟨y, n, c, zs, hcs, _, hl, hm, hz, hx, hcell, hwz⟩
  · simp at hcs
    subst hcs
    exact ⟨[], ⟨fun d hd => (by cases hd), none, 0, rfl, Nat.le_refl _, by unfold maxLen; omega, Or.inl ⟨rfl, rfl⟩⟩, by simp⟩
  · simp at hcs
    subst hcs
    have hz' : n ≤ zs.length := by split at hz <;> omega
    have hb : ∀ z ∈ zs, 0 ≤ z ∧ z < 256 := by
      intro z hz
      have := bounds_u8 (hwz z hz)
      omega
    have hlen : ((zs.take n).map Int.toNat).length = n := by rw [List.length_map, List.length_take]; omega
    refine ⟨(zs.take n).map Int.toNat, ⟨?_, some y, c, by rw [hlen], by rw [hlen]; omega, hm, Or.inr ⟨y, rfl, ?_⟩⟩, ?_⟩
    · intro d hd
      obtain ⟨z, hz, rfl⟩ := List.mem_map.1 hd
      have := hb z (List.mem_of_mem_take hz)
      omega
    · intro i hi
      rw [hlen] at hi
      have hi2 : i < zs.length := by omega
      rw [hcell i hi2]
      have e1 : zs.getD i 0 = zs[i] := by rw [List.getD_eq_getElem?_getD, List.getElem?_eq_getElem hi2]; rfl
      have e2 : ((zs.take n).map Int.toNat).getD i 0 = zs[i].toNat := by
        rw [List.getD_eq_getElem?_getD, List.getElem?_map, List.getElem?_take_of_lt hi, List.getElem?_eq_getElem hi2]; rfl
      rw [e1, e2]
      have := hb zs[i] (List.getElem_mem hi2)
      rw [Int.toNat_of_nonneg this.1]
    · rw [hlen]
      obtain ⟨x1, x2⟩ := x
      injection hx with hx1 hx2
      subst hx1
      have := hw (((lits (H := H) .u8 (zs.take n)).length + (lits (H := H) .u8 (zs.drop n)).length) * Try.prog.bytesOf 5) (by simp [DataW.weights, Try.underlying33])
      rw [b8] at this
      unfold reachBytes at this
      have e : (lits (H := H) .u8 (zs.take n)).length = n := by simp [lits]; omega
      omega
theorem w_of {H : Type} {ts : List TypeId} {ds : List (DataW H)} (hz : (DataW.weightsEach Try.prog ts ds).all (· ≤ reachBytes) = true) {j : Nat} {t : TypeId} {d : DataW H} (ht : ts[j]? = some t) (hd : ds[j]? = some d) : ∀ m ∈ d.weights Try.prog t, m ≤ reachBytes := fun m hm => by
  have := List.all_eq_true.1 hz m (DataW.weights_mem_each ht hd m hm)
  simpa using this
theorem w_all {H : Type} {P : Program} {e : TypeId} : ∀ {ds : List (DataW H)} {d : DataW H}, d ∈ ds → ∀ n ∈ d.weights P e, n ∈ DataW.weightsAll P e ds
  | c :: ds, d, h, n, hn => by
    simp only [DataW.weightsAll, List.mem_append]
    rcases List.mem_cons.1 h with rfl | h
    · exact Or.inl hn
    · exact Or.inr (w_all h n hn)
theorem trod_one {H : Type} {enc : TypeId × Value → H} {W : World} {t : TypeId} {v : Value} {d : DataW H} {p : List MemPlace} (h0 : DataW.Trod enc Try.prog W 0 (fun _ => true) true t v d p) (hc : v.cells = #[v]) : ∃ n, DataW.trod enc Try.prog W 0 (fun _ => true) true n t [v] = some (d, p) := by
  obtain ⟨n, hn⟩ := h0
  rw [hc] at hn
  exact ⟨n, hn⟩
theorem int_trod {H : Type} {enc : TypeId × Value → H} {W : World} {sp : Nat → Bool} {held : Bool} {fuel : Nat} {u : Value} {x : DataW H × List MemPlace} (h : DataW.trod enc Try.prog W 0 sp held fuel 3 [u] = some x) : ∃ k : Int, u = .int .i64 k ∧ -9223372036854775808 ≤ k ∧ k ≤ 9223372036854775807 := by
  obtain ⟨k, hk, _, w⟩ := DataW.trod_int Try.underlying3 h
  injection hk with hk _
  have b : -9223372036854775808 ≤ k ∧ k ≤ 9223372036854775807 := by simpa [Lit.wf, IntKind.min, IntKind.max, IntKind.signed, IntKind.bits] using w
  exact ⟨k, hk, b.1, b.2⟩
theorem u8_trod {H : Type} {enc : TypeId × Value → H} {W : World} {sp : Nat → Bool} {held : Bool} {fuel : Nat} {u : Value} {x : DataW H × List MemPlace} (h : DataW.trod enc Try.prog W 0 sp held fuel 5 [u] = some x) : ∃ k : Nat, u = .int .u8 (k : Int) ∧ k < 256 := by
  obtain ⟨k, hk, _, w⟩ := DataW.trod_int Try.underlying5 h
  injection hk with hk _
  have b : 0 ≤ k ∧ k ≤ 255 := by simpa [Lit.wf, IntKind.min, IntKind.max, IntKind.signed, IntKind.bits] using w
  exact ⟨k.toNat, by rw [hk]; congr 1; omega, by omega⟩
end Dk
open Dk

/-- Bytes that came in. -/
theorem open_bytes {H : Type} {enc : TypeId × Value → H} {W : World} {base : Nat} {v : Value} {d : DataW H} {p : List MemPlace}
    (hval : Value.okWide Try.prog W .any base 33 v) (h0 : DataW.Trod enc Try.prog W 0 (fun _ => true) true 33 v d p) {ts : List TypeId} {ds : List (DataW H)} (hz : (DataW.weightsEach Try.prog ts ds).all (· ≤ reachBytes) = true) {j : Nat} (ht : ts[j]? = some 33) (hd : ds[j]? = some d) :
    ∃ l, BR W v l ∧ l.length ≤ 140737488351232 := by
  obtain ⟨a, len, cap, rfl⟩ := okWide_slice Try.underlying33 hval
  obtain ⟨n, hn⟩ := trod_one h0 (by simp [Value.cells])
  exact bytes_trod hn (w_of hz ht hd)
theorem open_int {W : World} {base : Nat} {v : Value} (hval : Value.okWide Try.prog W .any base 3 v) : ∃ k : Int, v = .int .i64 k ∧ -9223372036854775808 ≤ k ∧ k ≤ 9223372036854775807 := by
  simp only [Value.okWide, Try.underlying3, Cell.okWide] at hval
  cases v <;> simp_all [Cell.ok]
  next a n =>
    have h := hval.2
    simp [IntKind.has, IntKind.min, IntKind.max, IntKind.signed, IntKind.bits] at h
    exact ⟨by omega, by omega⟩
theorem open_u8 {W : World} {base : Nat} {v : Value} (hval : Value.okWide Try.prog W .any base 5 v) : ∃ k : Nat, v = .int .u8 (k : Int) ∧ k < 256 := by
  simp only [Value.okWide, Try.underlying5, Cell.okWide] at hval
  cases v <;> simp_all [Cell.ok]
  next a n =>
    have h := hval.2
    simp [IntKind.has, IntKind.min, IntKind.max, IntKind.signed, IntKind.bits] at h
    exact ⟨n.toNat, by omega, by omega⟩

theorem open_torn {H : Type} {enc : TypeId × Value → H} {W : World} {base : Nat} {v : Value} {d : DataW H} {p : List MemPlace}
    (hval : Value.okWide Try.prog W .any base 43 v) (h0 : DataW.Trod enc Try.prog W 0 (fun _ => true) true 43 v d p) {ts : List TypeId} {ds : List (DataW H)} (hz : (DataW.weightsEach Try.prog ts ds).all (· ≤ reachBytes) = true) {j : Nat} (ht : ts[j]? = some 43) (hd : ds[j]? = some d) :
    ∃ (k : Int) (u : Value) (l : List Nat), v = .agg #[.int .i64 k, u] ∧ -9223372036854775808 ≤ k ∧ k ≤ 9223372036854775807 ∧ BR W u l := by
  obtain ⟨fuel, h⟩ := h0
  have hw0 := w_of hz ht hd
  simp only [Value.okWide, Try.underlying43] at hval
  obtain ⟨cs, rfl, _⟩ := hval
  obtain ⟨xs, n, hn, hdd, hlen, hxl, hf⟩ := DataW.trod_struct Try.underlying43 h
  have hc : Try.prog.cellsOf 43 = 2 := by kernel_rfl
  rw [hc] at hlen
  obtain ⟨c0, c1, ec⟩ := list2 hlen
  rw [ec] at hf
  have h0 : DataW.trod enc Try.prog W 0 (fun _ => true) true n 3 (([c0, c1].drop 0).take (Try.prog.cellsOf 3)) = xs[0]? := hf 0 _ rfl
  have h1 : DataW.trod enc Try.prog W 0 (fun _ => true) true n 33 (([c0, c1].drop 1).take (Try.prog.cellsOf 33)) = xs[1]? := hf 1 _ rfl
  obtain ⟨y0, e0⟩ := sm_at hxl (i := 0) (by decide)
  obtain ⟨y1, e1⟩ := sm_at hxl (i := 1) (by decide)
  rw [e0] at h0
  rw [e1] at h1
  simp only [cInt, cBytes, List.drop_zero, List.drop_succ_cons, List.take_succ_cons, List.take_zero] at h0 h1
  injection hdd with hdd _
  have hw' : ∀ (j : Nat) (tt : TypeId) (d : DataW H), [3, 33][j]? = some tt → (xs.map (·.1))[j]? = some d → ∀ m ∈ d.weights Try.prog tt, m ≤ reachBytes := by
    intro j tt d h1 h2 m hm
    refine hw0 m ?_
    rw [hdd]
    simp only [DataW.weights, Try.underlying43]
    exact DataW.weights_mem_each (ts := [3, 33]) h1 h2 m hm
  obtain ⟨k, rfl, k0, k1⟩ := int_trod h0
  obtain ⟨l, hl, -⟩ := bytes_trod h1 (hw' 1 _ _ rfl (by rw [List.getElem?_map, e1]; rfl))
  refine ⟨k, c1, l, ?_, k0, k1, hl⟩
  refine congrArg Value.agg ?_
  simp [Value.cells] at ec
  apply Array.ext'
  exact ec
theorem open_cuts {H : Type} {enc : TypeId × Value → H} {W : World} {base : Nat} {v : Value} {d : DataW H} {p : List MemPlace}
    (hval : Value.okWide Try.prog W .any base 49 v) (h0 : DataW.Trod enc Try.prog W 0 (fun _ => true) true 49 v d p) {ts : List TypeId} {ds : List (DataW H)} (hz : (DataW.weightsEach Try.prog ts ds).all (· ≤ reachBytes) = true) {j : Nat} (ht : ts[j]? = some 49) (hd : ds[j]? = some d) :
    ∃ (n : Nat) (k : Int) (u : Value) (l : List Nat), v = .agg #[.int .u8 (n : Int), .int .i64 k, u] ∧ n < 256 ∧ k ≤ 9223372036854775807 ∧ BR W u l := by
  obtain ⟨fuel, h⟩ := h0
  have hw0 := w_of hz ht hd
  simp only [Value.okWide, Try.underlying49] at hval
  obtain ⟨cs, rfl, _⟩ := hval
  obtain ⟨xs, n, hn, hdd, hlen, hxl, hf⟩ := DataW.trod_struct Try.underlying49 h
  have hc : Try.prog.cellsOf 49 = 3 := by kernel_rfl
  rw [hc] at hlen
  obtain ⟨c0, c1, c2, ec⟩ := list3 hlen
  rw [ec] at hf
  have h0 : DataW.trod enc Try.prog W 0 (fun _ => true) true n 5 (([c0, c1, c2].drop 0).take (Try.prog.cellsOf 5)) = xs[0]? := hf 0 _ rfl
  have h1 : DataW.trod enc Try.prog W 0 (fun _ => true) true n 3 (([c0, c1, c2].drop 1).take (Try.prog.cellsOf 3)) = xs[1]? := hf 1 _ rfl
  have h2 : DataW.trod enc Try.prog W 0 (fun _ => true) true n 33 (([c0, c1, c2].drop 2).take (Try.prog.cellsOf 33)) = xs[2]? := hf 2 _ rfl
  obtain ⟨y0, e0⟩ := sm_at hxl (i := 0) (by decide)
  obtain ⟨y1, e1⟩ := sm_at hxl (i := 1) (by decide)
  obtain ⟨y2, e2⟩ := sm_at hxl (i := 2) (by decide)
  rw [e0] at h0
  rw [e1] at h1
  rw [e2] at h2
  simp only [cU8, cInt, cBytes, List.drop_zero, List.drop_succ_cons, List.take_succ_cons, List.take_zero] at h0 h1 h2
  injection hdd with hdd _
  have hw' : ∀ (j : Nat) (tt : TypeId) (d : DataW H), [5, 3, 33][j]? = some tt → (xs.map (·.1))[j]? = some d → ∀ m ∈ d.weights Try.prog tt, m ≤ reachBytes := by
    intro j tt d h1 h2 m hm
    refine hw0 m ?_
    rw [hdd]
    simp only [DataW.weights, Try.underlying49]
    exact DataW.weights_mem_each (ts := [5, 3, 33]) h1 h2 m hm
  obtain ⟨q, rfl, hq⟩ := u8_trod h0
  obtain ⟨k, rfl, k0, k1⟩ := int_trod h1
  obtain ⟨l, hl, -⟩ := bytes_trod h2 (hw' 2 _ _ rfl (by rw [List.getElem?_map, e2]; rfl))
  refine ⟨q, k, c2, l, ?_, hq, k1, hl⟩
  refine congrArg Value.agg ?_
  simp [Value.cells] at ec
  apply Array.ext'
  exact ec

end Go.Proofs.Ytgkgflkcnigeaaa
