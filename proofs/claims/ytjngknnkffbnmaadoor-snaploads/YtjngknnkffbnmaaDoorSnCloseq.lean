/-
  What the rows' readings give the walks of layer 19: a cell, an entry, a snapshot that came in.
-/
import Derived.Test.YtjngknnkffbnmaaDoorFrClose
import Derived.Test.YtjngknnkffbnmaaDoorCdOpenq
import Derived.Test.YtjngknnkffbnmaaDoorSnRef7q
namespace Go.Proofs.YtjngknnkffbnmaaDoor
set_option maxRecDepth 100000
open Go.ChangeShapes Go.WideShapes Go.ChangeAt Go.RowKit Crc Sn

namespace Sn
theorem open_u16 {W : World} {base : Nat} {v : Value} (hval : Value.okWide Tryd.prog W .any base 42 v) : ∃ k : Nat, v = .int .u16 (k : Int) ∧ k < 65536 := by
  simp only [Value.okWide, Tryd.underlying42, Cell.okWide] at hval
  cases v <;> simp_all [Cell.ok]
  next a n =>
    have h := hval.2
    simp [IntKind.has, IntKind.min, IntKind.max, IntKind.signed, IntKind.bits] at h
    exact ⟨n.toNat, by omega, by omega⟩

theorem weights_all {H : Type} {P : Program} {e : TypeId} : ∀ {ds : List (DataW H)} {d : DataW H}, d ∈ ds → ∀ n ∈ d.weights P e, n ∈ DataW.weightsAll P e ds
  | c :: ds, d, h, n, hn => by
    simp only [DataW.weightsAll, List.mem_append]
    rcases List.mem_cons.1 h with rfl | h
    · exact Or.inl hn
    · exact Or.inr (weights_all h n hn)

theorem st_of {H : Type} {enc : TypeId × Value → H} {W : World} {sp : Nat → Bool} {held : Bool} {t : Tr} {v : Value} (h : CR W t v) : ∀ (fuel : Nat) (cs : List Value) (x : DataW H × List MemPlace), v = .agg cs.toArray → DataW.trod enc Tryd.prog W 0 sp held fuel 26 cs = some x → (∀ m ∈ x.1.weights Tryd.prog 26, m ≤ reachBytes) → ST t := by
  induction h using CR.ind with
  | mk k n s ts a cap ks ns ss us hk hn hs hl hc h0 hx hr ih =>
  intro fuel cs x hv h hw
  unfold cellV at hv
  simp only [Value.agg.injEq, Array.mk.injEq] at hv
  subst hv
  obtain ⟨xs, q, rfl, rfl, hlen, hxl, hf⟩ := DataW.trod_struct Tryd.underlying26 h
  have h2 : DataW.trod enc Tryd.prog W 0 sp held q 9 (([Value.int IntKind.i64 k, Value.int IntKind.u64 n, Value.string s, Value.slice a ts.length cap].drop 2).take (Tryd.prog.cellsOf 9)) = xs[2]? := hf 2 _ rfl
  have h3 : DataW.trod enc Tryd.prog W 0 sp held q 24 (([Value.int IntKind.i64 k, Value.int IntKind.u64 n, Value.string s, Value.slice a ts.length cap].drop 3).take (Tryd.prog.cellsOf 24)) = xs[3]? := hf 3 _ rfl
  obtain ⟨y2, e2⟩ := some_at hxl (i := 2) (by decide)
  obtain ⟨y3, e3⟩ := some_at hxl (i := 3) (by decide)
  rw [e2] at h2
  rw [e3] at h3
  simp only [cellsStr, cellsRow, List.drop_succ_cons, List.drop_zero, List.take_succ_cons, List.take_zero] at h2 h3
  have hw' : ∀ (j : Nat) (tt : TypeId) (d : DataW H), [3, 22, 9, 24][j]? = some tt → (xs.map (·.1))[j]? = some d → ∀ m ∈ d.weights Tryd.prog tt, m ≤ reachBytes := by
    intro j tt d h1 h2 m hm
    refine hw m ?_
    simp only [DataW.weights, Tryd.underlying26]
    exact DataW.weights_mem_each (ts := [3, 22, 9, 24]) h1 h2 m hm
  rw [ST_mk]
  obtain ⟨s2, hs2, hy2, _⟩ := DataW.trod_string Tryd.underlying9 h2
  injection hs2 with hs2 _
  injection hs2 with hs2
  subst hs2
  refine ⟨?_, fun u hu => ?_⟩
  · have := hw' 2 9 (.lit (.string s.data.toList)) rfl (by rw [List.getElem?_map, e2, hy2]; rfl) s.data.toList.length (by simp [DataW.weights])
    unfold reachBytes at this
    have e : s.data.toList.length = s.size := by simp
    omega
  · obtain ⟨i, hi, eu⟩ := List.getElem_of_mem hu
    rcases DataW.trod_slice Tryd.underlying24 h3 with ⟨hc3, _⟩ | ⟨b, len, cap3, elems, rest, q2, rfl, hc3, hy3, _, hlc, hcm, hel, hat, _⟩
    · injection hc3 with hc3 _
      injection hc3 with h4 h5 h6
      omega
    · injection hc3 with hc3 _
      injection hc3 with h4 h5 h6
      subst h4 h6
      have hi2 : i < len := by omega
      obtain ⟨y, ey⟩ := some_at hel hi2
      have hb := hat i hi2
      rw [ey, cellsCell] at hb
      obtain ⟨cs, hcs, htr⟩ := Option.bind_eq_some_iff.1 hb
      obtain ⟨c0, c1, c2, c3, e, g0, g1, g2, g3⟩ := cells_four hcs
      obtain ⟨hsp, hli⟩ := hx b i rfl hi
      obtain ⟨bb, oo, spt⟩ := b
      simp only at hsp
      subst hsp
      rw [add_mk] at g0 g1 g2 g3
      rw [add_mk] at g1 g2 g3
      have f0 := g0.symm.trans hli.c0
      have f1 := g1.symm.trans hli.c1
      have f2 := g2.symm.trans hli.c2
      have f3 := g3.symm.trans hli.c3
      injection f0 with f0
      injection f1 with f1
      injection f2 with f2
      injection f3 with f3
      subst e f0 f1 f2 f3
      rw [← eu]
      refine ih i hi q2 _ y rfl htr (fun m hm => ?_)
      refine hw' 3 24 y3.1 rfl (by rw [List.getElem?_map, e3]; rfl) m ?_
      rw [hy3]
      simp only [DataW.weights, Tryd.underlying24]
      refine List.mem_cons_of_mem _ (List.mem_append_left _ (weights_all (d := y.1) ?_ m hm))
      exact List.mem_map.2 ⟨y, List.mem_of_getElem? ey, rfl⟩


theorem cellsSn : Tryd.prog.cellsOf 28 = 11 := by kernel_rfl
theorem cellsEn : Tryd.prog.cellsOf 46 = 4 := by kernel_rfl
theorem cellsRI : Tryd.prog.cellsOf 23 = 1 := by kernel_rfl
theorem bytesI : Tryd.prog.bytesOf 3 = 8 := by kernel_rfl
theorem list11 {l : List Value} (h : l.length = 11) : ∃ a b c d e f g h i j k, l = [a, b, c, d, e, f, g, h, i, j, k] := by
  match l, h with
  | [a, b, c, d, e, f, g, h, i, j, k], _ => exact ⟨a, b, c, d, e, f, g, h, i, j, k, rfl⟩
/-- A row of whole numbers that came in. -/
theorem ints_open {H : Type} {enc : TypeId × Value → H} {W : World} {sp : Nat → Bool} {held : Bool} {fuel : Nat} {u : Value} {y : DataW H × List MemPlace}
    (h : DataW.trod enc Tryd.prog W 0 sp held fuel 23 [u] = some y) (hw : ∀ m ∈ y.1.weights Tryd.prog 23, m ≤ reachBytes) : ∃ l : List Int, NR W u l ∧ l.length ≤ 17592186044416 := by
  rcases DataW.trod_slice Tryd.underlying23 h with ⟨hc, _⟩ | ⟨a, len, cap, elems, rest, q, hq, hc, hy, _, hlc, hcm, hel, hat, _⟩
  · injection hc with hc _
    subst hc
    exact ⟨[], nr_nil _, by simp⟩
  · injection hc with hc _
    subst hc
    unfold maxLen at hcm
    rw [hy] at hw
    simp only [DataW.weights, Tryd.underlying23, bytesI] at hw
    have hlen : len ≤ 17592186044416 := by
      have := hw _ List.mem_cons_self
      simp only [List.length_map, hel] at this
      unfold reachBytes at this
      first | omega | (simp at *; omega)
    rw [cellsInt] at hat
    have key : ∀ i, ∃ k : Int, i < len → W.cell? (a.add i) = some (.int .i64 k) := by
      intro i
      by_cases hi : i < len
      · obtain ⟨x, ex⟩ := some_at hel hi
        have hb := hat i hi
        rw [ex] at hb
        obtain ⟨cs, hcs, htr⟩ := Option.bind_eq_some_iff.1 hb
        unfold World.cells? at hcs
        rw [if_pos (Nat.zero_le _)] at hcs
        have hl := Lib.mapM_length hcs
        obtain ⟨c, e0, f0⟩ := Lib.mapM_at hcs 0 0 (by simp)
        obtain rfl : cs = [c] := by
          match cs, hl, e0 with
          | [x], _, e0 => simpa using e0
        obtain ⟨k, hk, _, _⟩ := DataW.trod_int Tryd.underlying3 htr
        injection hk with hk _
        subst hk
        rw [Addr_add_zero, Nat.mul_one] at f0
        exact ⟨k, fun _ => f0⟩
      · exact ⟨0, fun h => absurd h hi⟩
    obtain ⟨F, hF⟩ := Classical.axiomOfChoice key
    have hl : ((List.range len).map F).length = len := by simp
    refine ⟨(List.range len).map F, ⟨⟨some a, cap, by rw [hl], by rw [hl]; exact hlc, by omega, (fun e => by cases e), fun x e => ?_⟩⟩, by rw [hl]; exact hlen⟩
    cases e
    have hs : 0 < len → a.spot = none := fun h0 => by
      have := hF 0 h0
      rw [Addr_add_zero] at this
      exact spot_none this
    refine ⟨fun h0 => hs (by rw [hl] at h0; exact h0), fun i hi => ?_⟩
    rw [hl] at hi
    have h1 := hF i hi
    have h2 := hs (by omega)
    obtain ⟨b, o, s⟩ := a
    simp only at h2
    subst h2
    rw [add_mk] at h1
    simp only [List.getElem_map, List.getElem_range]
    exact h1
theorem u64_of {m : Int} (wm : (Lit.int IntKind.u64 m).wf = true) : ∃ N : Nat, m = (N : Int) ∧ N < 18446744073709551616 := by
  have bm : 0 ≤ m ∧ m ≤ 18446744073709551615 := by simpa [Lit.wf, IntKind.min, IntKind.max, IntKind.signed, IntKind.bits] using wm
  exact ⟨m.toNat, by omega, by omega⟩
end Sn

/-- A cell that came in, and its texts. -/
theorem open_cell_st {H : Type} {enc : TypeId × Value → H} {W : World} {base : Nat} {v : Value} {d : DataW H} {p : List MemPlace}
    (hval : Value.okWide Tryd.prog W .any base 26 v) (h0 : DataW.Trod enc Tryd.prog W 0 (fun _ => true) true 26 v d p) : ∃ t, CR W t v := open_cell hval h0

/-- An entry that came in. -/
theorem open_entry {H : Type} {enc : TypeId × Value → H} {W : World} {base : Nat} {v : Value} {d : DataW H} {p : List MemPlace}
    (hval : Value.okWide Tryd.prog W .any base 46 v) (h0 : DataW.Trod enc Tryd.prog W 0 (fun _ => true) true 46 v d p) {ts : List TypeId} {ds : List (DataW H)} (hz : (DataW.weightsEach Tryd.prog ts ds).all (· ≤ reachBytes) = true) {j : Nat} (ht : ts[j]? = some 46) (hd : ds[j]? = some d) :
    ∃ (x : Ent) (mv : Value), v = .agg #[.int .u64 x.tm, .int .i64 x.kd, .string x.dt, mv] ∧ NR W mv x.ms ∧ x.tm < 18446744073709551616 ∧ x.dt.size ≤ 9223372036854775807 := by
  obtain ⟨fuel, h⟩ := h0
  have hw0 : ∀ m ∈ d.weights Tryd.prog 46, m ≤ reachBytes := fun m hm => by
    have := List.all_eq_true.1 hz m (DataW.weights_mem_each ht hd m hm)
    simpa using this
  simp only [Value.okWide, Tryd.underlying46] at hval
  obtain ⟨cs, rfl, _⟩ := hval
  obtain ⟨xs, n, hn, hdd, hlen, hxl, hf⟩ := DataW.trod_struct Tryd.underlying46 h
  rw [cellsEn] at hlen
  obtain ⟨c0, c1, c2, c3, ec⟩ := list4 hlen
  rw [ec] at hf
  have h0 : DataW.trod enc Tryd.prog W 0 (fun _ => true) true n 22 (([c0, c1, c2, c3].drop 0).take (Tryd.prog.cellsOf 22)) = xs[0]? := hf 0 _ rfl
  have h1 : DataW.trod enc Tryd.prog W 0 (fun _ => true) true n 3 (([c0, c1, c2, c3].drop 1).take (Tryd.prog.cellsOf 3)) = xs[1]? := hf 1 _ rfl
  have h2 : DataW.trod enc Tryd.prog W 0 (fun _ => true) true n 9 (([c0, c1, c2, c3].drop 2).take (Tryd.prog.cellsOf 9)) = xs[2]? := hf 2 _ rfl
  have h3 : DataW.trod enc Tryd.prog W 0 (fun _ => true) true n 23 (([c0, c1, c2, c3].drop 3).take (Tryd.prog.cellsOf 23)) = xs[3]? := hf 3 _ rfl
  obtain ⟨y0, e0⟩ := some_at hxl (i := 0) (by decide)
  obtain ⟨y1, e1⟩ := some_at hxl (i := 1) (by decide)
  obtain ⟨y2, e2⟩ := some_at hxl (i := 2) (by decide)
  obtain ⟨y3, e3⟩ := some_at hxl (i := 3) (by decide)
  rw [e0] at h0
  rw [e1] at h1
  rw [e2] at h2
  rw [e3] at h3
  simp only [cellsInt, cellsU64, cellsStr, cellsRI, List.drop_zero, List.drop_succ_cons, List.take_succ_cons, List.take_zero] at h0 h1 h2 h3
  injection hdd with hdd _
  have hw' : ∀ (j : Nat) (tt : TypeId) (d : DataW H), [22, 3, 9, 23][j]? = some tt → (xs.map (·.1))[j]? = some d → ∀ m ∈ d.weights Tryd.prog tt, m ≤ reachBytes := by
    intro j tt d h1 h2 m hm
    refine hw0 m ?_
    rw [hdd]
    simp only [DataW.weights, Tryd.underlying46]
    exact DataW.weights_mem_each (ts := [22, 3, 9, 23]) h1 h2 m hm
  obtain ⟨k0, hk0, _, w0⟩ := DataW.trod_int Tryd.underlying22 h0
  obtain ⟨k1, hk1, _, w1⟩ := DataW.trod_int Tryd.underlying3 h1
  obtain ⟨s, hs, _, ws⟩ := DataW.trod_string Tryd.underlying9 h2
  injection hk0 with hk0 _
  injection hk1 with hk1 _
  injection hs with hs _
  subst hk0 hk1 hs
  obtain ⟨N, rfl, hN⟩ := u64_of w0
  obtain ⟨l, hl, -⟩ := ints_open h3 (hw' 3 _ _ rfl (by rw [List.getElem?_map, e3]; rfl))
  unfold maxLen at ws
  refine ⟨⟨N, k1, s, l⟩, c3, ?_, hl, hN, by show s.size ≤ _; omega⟩
  have : cs = #[.int .u64 (N : Int), .int .i64 k1, .string s, c3] := by
    simp [Value.cells] at ec
    apply Array.ext'
    exact ec
  rw [this]

/-- A snapshot that came in. -/
theorem open_snap {H : Type} {enc : TypeId × Value → H} {W : World} {base : Nat} {v : Value} {d : DataW H} {p : List MemPlace}
    (hval : Value.okWide Tryd.prog W .any base 28 v) (h0 : DataW.Trod enc Tryd.prog W 0 (fun _ => true) true 28 v d p) {ts : List TypeId} {ds : List (DataW H)} (hz : (DataW.weightsEach Tryd.prog ts ds).all (· ≤ reachBytes) = true) {j : Nat} (ht : ts[j]? = some 28) (hd : ds[j]? = some d) :
    ∃ (z : Sp) (mv : Value) (k1 k2 : Int) (n1 n2 : Nat) (s1 s2 : ByteArray) (u1 u2 : Value), v = .agg #[.int .u64 z.ix, .int .u64 z.tm, mv, .int .i64 k1, .int .u64 n1, .string s1, u1, .int .i64 k2, .int .u64 n2, .string s2, u2] ∧
      NR W mv z.ms ∧ CR W z.ss (cellV k1 n1 s1 u1) ∧ CR W z.st (cellV k2 n2 s2 u2) ∧ z.ix < 18446744073709551616 ∧ z.tm < 18446744073709551616 ∧ ST z.ss ∧ ST z.st ∧ z.ms.length ≤ 17592186044416 := by
  obtain ⟨fuel, h⟩ := h0
  have hw0 : ∀ m ∈ d.weights Tryd.prog 28, m ≤ reachBytes := fun m hm => by
    have := List.all_eq_true.1 hz m (DataW.weights_mem_each ht hd m hm)
    simpa using this
  simp only [Value.okWide, Tryd.underlying28] at hval
  obtain ⟨cs, rfl, _⟩ := hval
  obtain ⟨xs, n, hn, hdd, hlen, hxl, hf⟩ := DataW.trod_struct Tryd.underlying28 h
  rw [cellsSn] at hlen
  obtain ⟨c0, c1, c2, c3, c4, c5, c6, c7, c8, c9, c10, ec⟩ := list11 hlen
  rw [ec] at hf
  have h0 : DataW.trod enc Tryd.prog W 0 (fun _ => true) true n 22 (([c0, c1, c2, c3, c4, c5, c6, c7, c8, c9, c10].drop 0).take (Tryd.prog.cellsOf 22)) = xs[0]? := hf 0 _ rfl
  have h1 : DataW.trod enc Tryd.prog W 0 (fun _ => true) true n 22 (([c0, c1, c2, c3, c4, c5, c6, c7, c8, c9, c10].drop 1).take (Tryd.prog.cellsOf 22)) = xs[1]? := hf 1 _ rfl
  have h2 : DataW.trod enc Tryd.prog W 0 (fun _ => true) true n 23 (([c0, c1, c2, c3, c4, c5, c6, c7, c8, c9, c10].drop 2).take (Tryd.prog.cellsOf 23)) = xs[2]? := hf 2 _ rfl
  have h3 : DataW.trod enc Tryd.prog W 0 (fun _ => true) true n 26 (([c0, c1, c2, c3, c4, c5, c6, c7, c8, c9, c10].drop 3).take (Tryd.prog.cellsOf 26)) = xs[3]? := hf 3 _ rfl
  have h4 : DataW.trod enc Tryd.prog W 0 (fun _ => true) true n 26 (([c0, c1, c2, c3, c4, c5, c6, c7, c8, c9, c10].drop 7).take (Tryd.prog.cellsOf 26)) = xs[4]? := hf 4 _ rfl
  obtain ⟨y0, e0⟩ := some_at hxl (i := 0) (by decide)
  obtain ⟨y1, e1⟩ := some_at hxl (i := 1) (by decide)
  obtain ⟨y2, e2⟩ := some_at hxl (i := 2) (by decide)
  obtain ⟨y3, e3⟩ := some_at hxl (i := 3) (by decide)
  obtain ⟨y4, e4⟩ := some_at hxl (i := 4) (by decide)
  rw [e0] at h0
  rw [e1] at h1
  rw [e2] at h2
  rw [e3] at h3
  rw [e4] at h4
  simp only [cellsU64, cellsRI, cellsCell, List.drop_zero, List.drop_succ_cons, List.take_succ_cons, List.take_zero] at h0 h1 h2 h3 h4
  injection hdd with hdd _
  have hw' : ∀ (j : Nat) (tt : TypeId) (d : DataW H), [22, 22, 23, 26, 26][j]? = some tt → (xs.map (·.1))[j]? = some d → ∀ m ∈ d.weights Tryd.prog tt, m ≤ reachBytes := by
    intro j tt d h1 h2 m hm
    refine hw0 m ?_
    rw [hdd]
    simp only [DataW.weights, Tryd.underlying28]
    exact DataW.weights_mem_each (ts := [22, 22, 23, 26, 26]) h1 h2 m hm
  obtain ⟨k0, hk0, _, w0⟩ := DataW.trod_int Tryd.underlying22 h0
  obtain ⟨k1, hk1, _, w1⟩ := DataW.trod_int Tryd.underlying22 h1
  injection hk0 with hk0 _
  injection hk1 with hk1 _
  subst hk0 hk1
  obtain ⟨N0, rfl, hN0⟩ := u64_of w0
  obtain ⟨N1, rfl, hN1⟩ := u64_of w1
  obtain ⟨l, hl, hll⟩ := ints_open h2 (hw' 2 _ _ rfl (by rw [List.getElem?_map, e2]; rfl))
  obtain ⟨t3, q3, r3, s3, u3, e3', hc3⟩ := trod_cell n _ _ h3
  obtain ⟨t4, q4, r4, s4, u4, e4', hc4⟩ := trod_cell n _ _ h4
  simp only [List.cons.injEq, and_true] at e3' e4'
  obtain ⟨rfl, rfl, rfl, rfl⟩ := e3'
  obtain ⟨rfl, rfl, rfl, rfl⟩ := e4'
  have t3s := st_of hc3 n _ _ rfl h3 (hw' 3 _ _ rfl (by rw [List.getElem?_map, e3]; rfl))
  have t4s := st_of hc4 n _ _ rfl h4 (hw' 4 _ _ rfl (by rw [List.getElem?_map, e4]; rfl))
  refine ⟨⟨N0, N1, l, t3, t4⟩, c2, q3, q4, r3, r4, s3, s4, _, _, ?_, hl, hc3, hc4, hN0, hN1, t3s, t4s, hll⟩
  refine congrArg Value.agg ?_
  simp [Value.cells] at ec
  apply Array.ext'
  exact ec

end Go.Proofs.YtjngknnkffbnmaaDoor
