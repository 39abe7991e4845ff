/-
  What the rows' readings give the walks of layer 13: a function that came in.
-/
import Derived.Test.YtcblknghkgihcaaDoorPgClose
namespace Go.Proofs.YtcblknghkgihcaaDoor
set_option maxRecDepth 100000
open Go.ChangeShapes Go.WideShapes Go.ChangeAt Go.RowKit Txt Pg

theorem cellsPr : Tryd.prog.cellsOf 27 = 6 := by kernel_rfl
theorem cellsUp : Tryd.prog.cellsOf 54 = 2 := by kernel_rfl
theorem cellsIns : Tryd.prog.cellsOf 58 = 4 := by kernel_rfl
theorem cellsVl : Tryd.prog.cellsOf 63 = 4 := by kernel_rfl
theorem cellsRU : Tryd.prog.cellsOf 22 = 1 := by kernel_rfl
theorem cellsRI : Tryd.prog.cellsOf 23 = 1 := by kernel_rfl
theorem cellsRV : Tryd.prog.cellsOf 24 = 1 := by kernel_rfl
theorem cellsRP : Tryd.prog.cellsOf 25 = 1 := by kernel_rfl
theorem cellsBo : Tryd.prog.cellsOf 4 = 1 := by kernel_rfl
theorem cellsNm : Tryd.prog.cellsOf 61 = 1 := by kernel_rfl
theorem bytesUp : Tryd.prog.bytesOf 54 = 16 := by kernel_rfl
theorem bytesIns : Tryd.prog.bytesOf 58 = 32 := by kernel_rfl
theorem bytesVl : Tryd.prog.bytesOf 63 = 40 := by kernel_rfl
theorem bytesPr : Tryd.prog.bytesOf 27 = 112 := by kernel_rfl

theorem some_atP {α : Type} {l : List α} {n i : Nat} (h : l.length = n) (hi : i < n) : ∃ x, l[i]? = some x := ⟨l[i]'(by omega), List.getElem?_eq_getElem (by omega)⟩
theorem list2 {l : List Value} (h : l.length = 2) : ∃ a b, l = [a, b] := by
  match l, h with
  | [a, b], _ => exact ⟨a, b, rfl⟩
theorem list4P {l : List Value} (h : l.length = 4) : ∃ a b c d, l = [a, b, c, d] := by
  match l, h with
  | [a, b, c, d], _ => exact ⟨a, b, c, d, rfl⟩
theorem list6 {l : List Value} (h : l.length = 6) : ∃ a b c d e f, l = [a, b, c, d, e, f] := by
  match l, h with
  | [a, b, c, d, e, f], _ => exact ⟨a, b, c, d, e, f, rfl⟩
theorem spotP {W : World} {a : Addr} {u : Value} (h : W.cell? a = some u) : a.spot = none := by
  obtain ⟨b, o, s⟩ := a
  cases s with
  | none => rfl
  | some k =>
    unfold World.cell? at h
    split at h <;> simp at h
theorem addP (b o n : Nat) : Addr.add ⟨b, o, none⟩ n = ⟨b, o + n, none⟩ := by unfold Addr.add; split <;> simp_all
/-- z cells in a row. -/
theorem cells_at {W : World} {a : Addr} {cs : List Value} {z : Nat} (h : W.cells? 0 a z = some cs) (j : Nat) (hj : j < z) : ∃ c, cs[j]? = some c ∧ W.cell? (a.add j) = some c := by
  unfold World.cells? at h
  rw [if_pos (Nat.zero_le _)] at h
  obtain ⟨b, e, f⟩ := Lib.mapM_at h j j (by simp [hj])
  exact ⟨b, e, f⟩

theorem weights_allP {H : Type} {P : Program} {e : TypeId} : ∀ {ds : List (DataW H)} {d : DataW H}, d ∈ ds → ∀ n ∈ d.weights P e, n ∈ DataW.weightsAll P e ds
  | c :: ds, d, h, n, hn => by
    simp only [DataW.weightsAll, List.mem_append]
    rcases List.mem_cons.1 h with rfl | h
    · exact Or.inl hn
    · exact Or.inr (weights_allP h n hn)

/-- A row that came in, of parts of z cells, each of which is read as G says. -/
theorem row_open {H : Type} {enc : TypeId × Value → H} {W : World} {sp : Nat → Bool} {held : Bool} {fuel : Nat} {ts te : TypeId} {u : Value} {y : DataW H × List MemPlace} {z by' : Nat} (hz : 0 < z) (G : List Value → Prop)
    (ht : Tryd.prog.underlying ts = some (.slice te)) (hce : Tryd.prog.cellsOf te = z) (hby : Tryd.prog.bytesOf te = by') (hb16 : 1 ≤ by')
    (h : DataW.trod enc Tryd.prog W 0 sp held fuel ts [u] = some y) (hw : ∀ m ∈ y.1.weights Tryd.prog ts, m ≤ reachBytes)
    (hG : ∀ q (cs : List Value) (x : DataW H × List MemPlace), q < fuel → DataW.trod enc Tryd.prog W 0 sp held q te cs = some x → (∀ m ∈ x.1.weights Tryd.prog te, m ≤ reachBytes) → G cs) :
    ∃ (n : Nat) (C : Nat → List Value), SL W u n z (fun i j v => (C i)[j]? = some v) ∧ ∀ i, i < n → G (C i) := by
  rcases DataW.trod_slice ht h with ⟨hc, _⟩ | ⟨a, len, cap, elems, rest, q, hq, hc, hy, _, hlc, hcm, hel, hat, _⟩
  · injection hc with hc _
    subst hc
    exact ⟨0, fun _ => [], ⟨none, 0, rfl, Nat.le_refl _, by decide, by unfold far; omega, fun _ => ⟨rfl, rfl⟩, fun x e => by cases e⟩, fun i hi => absurd hi (Nat.not_lt_zero _)⟩
  · injection hc with hc _
    subst hc
    unfold maxLen at hcm
    rw [hy] at hw
    simp only [DataW.weights, ht, hby] at hw
    have hlen : len ≤ far := by
      have := hw _ List.mem_cons_self
      simp only [List.length_map, hel] at this
      unfold reachBytes at this
      unfold far
      have h2 : len * 1 ≤ len * by' := Nat.mul_le_mul_left _ hb16
      have h3 : len * by' ≤ (len + rest.length) * by' := Nat.mul_le_mul_right _ (Nat.le_add_right _ _)
      first | omega | (simp at *; omega)
    rw [hce] at hat
    have key : ∀ i, ∃ l : List Value, i < len → (W.cells? 0 (a.add (i * z)) z = some l) ∧ G l := by
      intro i
      by_cases hi : i < len
      · obtain ⟨x, ex⟩ := some_atP hel hi
        have hb := hat i hi
        rw [ex] at hb
        obtain ⟨cs, hcs, htr⟩ := Option.bind_eq_some_iff.1 hb
        refine ⟨cs, fun _ => ⟨hcs, hG q cs x (by omega) htr (fun m hm => ?_)⟩⟩
        refine hw m (List.mem_cons_of_mem _ (List.mem_append_left _ (weights_allP (d := x.1) ?_ m hm)))
        exact List.mem_map.2 ⟨x, List.mem_of_getElem? ex, rfl⟩
      · exact ⟨[], fun h => absurd h hi⟩
    obtain ⟨C, hC⟩ := Classical.axiomOfChoice key
    refine ⟨len, C, ⟨some a, cap, rfl, hlc, by omega, hlen, (fun e => by cases e), fun x e => ?_⟩, fun i hi => (hC i hi).2⟩
    cases e
    have hsp : 0 < len → a.spot = none := by
      intro h0
      obtain ⟨c, _, hc⟩ := cells_at (hC 0 h0).1 0 hz
      rw [Nat.zero_mul, Addr_add_zero, Addr_add_zero] at hc
      exact spotP hc
    refine ⟨hsp, fun i hi j hj => ?_⟩
    obtain ⟨c, h1, h2⟩ := cells_at (hC i hi).1 j hj
    have h3 := hsp (Nat.lt_of_le_of_lt (Nat.zero_le _) hi)
    obtain ⟨b, o, s⟩ := a
    simp only at h3
    subst h3
    rw [addP, addP] at h2
    exact ⟨c, h2, h1⟩

theorem list_of {α : Type} : ∀ (n : Nat) (Q : Nat → α → Prop), (∀ i, i < n → ∃ x, Q i x) → ∃ l : List α, l.length = n ∧ ∀ i (h : i < l.length), Q i l[i]
  | 0, _, _ => ⟨[], rfl, fun i h => absurd h (Nat.not_lt_zero _)⟩
  | n + 1, Q, h => by
    obtain ⟨l, hl, hq⟩ := list_of n Q (fun i hi => h i (by omega))
    obtain ⟨x, hx⟩ := h n (by omega)
    refine ⟨l ++ [x], by simp [hl], fun i hi => ?_⟩
    by_cases c : i < l.length
    · rw [List.getElem_append_left c]; exact hq i c
    · have : i = l.length := by rw [List.length_append, List.length_singleton] at hi; omega
      subst this
      rw [List.getElem_append_right (Nat.le_refl _)]
      simp only [Nat.sub_self, List.getElem_singleton]
      rw [hl]; exact hx

section
variable {H : Type} {enc : TypeId × Value → H} {W : World} {sp : Nat → Bool} {held : Bool}
theorem i64_of {k : Int} (wk : (Lit.int IntKind.i64 k).wf = true) : i64 k := by
  unfold i64
  simpa [Lit.wf, IntKind.min, IntKind.max, IntKind.signed, IntKind.bits] using wk
theorem up_open (q : Nat) (cs : List Value) (x : DataW H × List MemPlace) (h : DataW.trod enc Tryd.prog W 0 sp held q 54 cs = some x) : ∃ u : Upp, cs = [.bool u.own, .int .i64 u.pl] ∧ u.ok := by
  obtain ⟨xs, n, rfl, hd, hlen, hxl, hf⟩ := DataW.trod_struct Tryd.underlying54 h
  rw [cellsUp] at hlen
  obtain ⟨c0, c1, rfl⟩ := list2 hlen
  have h0 : DataW.trod enc Tryd.prog W 0 sp held n 4 (([c0, c1].drop 0).take (Tryd.prog.cellsOf 4)) = xs[0]? := hf 0 _ rfl
  have h1 : DataW.trod enc Tryd.prog W 0 sp held n 3 (([c0, c1].drop 1).take (Tryd.prog.cellsOf 3)) = xs[1]? := hf 1 _ rfl
  obtain ⟨y0, e0⟩ := some_atP hxl (i := 0) (by decide)
  obtain ⟨y1, e1⟩ := some_atP hxl (i := 1) (by decide)
  rw [e0] at h0
  rw [e1] at h1
  simp only [cellsBo, cellsInt1, List.drop_zero, List.drop_succ_cons, List.take_succ_cons, List.take_zero] at h0 h1
  obtain ⟨b, hb, _⟩ := DataW.trod_bool Tryd.underlying4 h0
  obtain ⟨k, hk, _, wk⟩ := DataW.trod_int Tryd.underlying3 h1
  injection hb with hb _
  injection hk with hk _
  subst hb hk
  exact ⟨⟨b, k⟩, rfl, i64_of wk⟩
theorem ins_open (q : Nat) (cs : List Value) (x : DataW H × List MemPlace) (h : DataW.trod enc Tryd.prog W 0 sp held q 58 cs = some x) : ∃ u : Ins, cs = [.int .i64 u.op, .int .i64 u.a, .int .i64 u.b, .int .i64 u.c] ∧ u.ok := by
  obtain ⟨xs, n, rfl, hd, hlen, hxl, hf⟩ := DataW.trod_struct Tryd.underlying58 h
  rw [cellsIns] at hlen
  obtain ⟨c0, c1, c2, c3, rfl⟩ := list4P hlen
  have h0 : DataW.trod enc Tryd.prog W 0 sp held n 3 (([c0, c1, c2, c3].drop 0).take (Tryd.prog.cellsOf 3)) = xs[0]? := hf 0 _ rfl
  have h1 : DataW.trod enc Tryd.prog W 0 sp held n 3 (([c0, c1, c2, c3].drop 1).take (Tryd.prog.cellsOf 3)) = xs[1]? := hf 1 _ rfl
  have h2 : DataW.trod enc Tryd.prog W 0 sp held n 3 (([c0, c1, c2, c3].drop 2).take (Tryd.prog.cellsOf 3)) = xs[2]? := hf 2 _ rfl
  have h3 : DataW.trod enc Tryd.prog W 0 sp held n 3 (([c0, c1, c2, c3].drop 3).take (Tryd.prog.cellsOf 3)) = xs[3]? := hf 3 _ rfl
  obtain ⟨y0, e0⟩ := some_atP hxl (i := 0) (by decide)
  obtain ⟨y1, e1⟩ := some_atP hxl (i := 1) (by decide)
  obtain ⟨y2, e2⟩ := some_atP hxl (i := 2) (by decide)
  obtain ⟨y3, e3⟩ := some_atP hxl (i := 3) (by decide)
  rw [e0] at h0
  rw [e1] at h1
  rw [e2] at h2
  rw [e3] at h3
  simp only [cellsInt1, List.drop_zero, List.drop_succ_cons, List.take_succ_cons, List.take_zero] at h0 h1 h2 h3
  obtain ⟨k0, hk0, _, w0⟩ := DataW.trod_int Tryd.underlying3 h0
  obtain ⟨k1, hk1, _, w1⟩ := DataW.trod_int Tryd.underlying3 h1
  obtain ⟨k2, hk2, _, w2⟩ := DataW.trod_int Tryd.underlying3 h2
  obtain ⟨k3, hk3, _, w3⟩ := DataW.trod_int Tryd.underlying3 h3
  injection hk0 with hk0 _
  injection hk1 with hk1 _
  injection hk2 with hk2 _
  injection hk3 with hk3 _
  subst hk0 hk1 hk2 hk3
  exact ⟨⟨k0, k1, k2, k3⟩, rfl, i64_of w0, i64_of w1, i64_of w2, i64_of w3⟩
theorem vl_open (q : Nat) (cs : List Value) (x : DataW H × List MemPlace) (h : DataW.trod enc Tryd.prog W 0 sp held q 63 cs = some x) (hw : ∀ m ∈ x.1.weights Tryd.prog 63, m ≤ reachBytes) : ∃ u : Vl, cs = [.int .i64 u.k, .int .u64 u.n, .string u.s, .int .i64 u.o] ∧ u.ok := by
  obtain ⟨xs, n, rfl, hd, hlen, hxl, hf⟩ := DataW.trod_struct Tryd.underlying63 h
  rw [cellsVl] at hlen
  obtain ⟨c0, c1, c2, c3, rfl⟩ := list4P hlen
  have h0 : DataW.trod enc Tryd.prog W 0 sp held n 3 (([c0, c1, c2, c3].drop 0).take (Tryd.prog.cellsOf 3)) = xs[0]? := hf 0 _ rfl
  have h1 : DataW.trod enc Tryd.prog W 0 sp held n 61 (([c0, c1, c2, c3].drop 1).take (Tryd.prog.cellsOf 61)) = xs[1]? := hf 1 _ rfl
  have h2 : DataW.trod enc Tryd.prog W 0 sp held n 9 (([c0, c1, c2, c3].drop 2).take (Tryd.prog.cellsOf 9)) = xs[2]? := hf 2 _ rfl
  have h3 : DataW.trod enc Tryd.prog W 0 sp held n 3 (([c0, c1, c2, c3].drop 3).take (Tryd.prog.cellsOf 3)) = xs[3]? := hf 3 _ rfl
  obtain ⟨y0, e0⟩ := some_atP hxl (i := 0) (by decide)
  obtain ⟨y1, e1⟩ := some_atP hxl (i := 1) (by decide)
  obtain ⟨y2, e2⟩ := some_atP hxl (i := 2) (by decide)
  obtain ⟨y3, e3⟩ := some_atP hxl (i := 3) (by decide)
  rw [e0] at h0
  rw [e1] at h1
  rw [e2] at h2
  rw [e3] at h3
  simp only [cellsInt1, cellsNm, cellsTxt, List.drop_zero, List.drop_succ_cons, List.take_succ_cons, List.take_zero] at h0 h1 h2 h3
  obtain ⟨k0, hk0, _, w0⟩ := DataW.trod_int Tryd.underlying3 h0
  obtain ⟨k1, hk1, _, w1⟩ := DataW.trod_int Tryd.underlying61 h1
  obtain ⟨k2, hk2, hy2, w2⟩ := DataW.trod_string Tryd.underlying9 h2
  obtain ⟨k3, hk3, _, w3⟩ := DataW.trod_int Tryd.underlying3 h3
  injection hk0 with hk0 _
  injection hk1 with hk1 _
  injection hk2 with hk2 _
  injection hk3 with hk3 _
  subst hk0 hk1 hk2 hk3
  have hn : 0 ≤ k1 ∧ k1 ≤ 18446744073709551615 := by simpa [Lit.wf, IntKind.min, IntKind.max, IntKind.signed, IntKind.bits] using w1
  have hs : k2.size ≤ far := by
    have h4 := hw k2.data.toList.length (by
      rw [hd]
      simp only [DataW.weights, Tryd.underlying63]
      refine DataW.weights_mem_each (ts := [3, 61, 9, 3]) (j := 2) (t := 9) (d := .lit (.string k2.data.toList)) rfl ?_ _ (by simp [DataW.weights])
      rw [List.getElem?_map, e2, hy2]; rfl)
    unfold reachBytes at h4
    unfold far
    have e : k2.data.toList.length = k2.size := by simp
    omega
  exact ⟨⟨k0, k1, k2, k3⟩, rfl, i64_of w0, ⟨hn.1, by show k1 < 18446744073709551616; omega⟩, hs, i64_of w3⟩

theorem su_of {u : Value} {n : Nat} {C : Nat → List Value} (hs : SL W u n 2 (fun i j v => (C i)[j]? = some v)) (hg : ∀ i, i < n → ∃ x : Upp, C i = [.bool x.own, .int .i64 x.pl] ∧ x.ok) : ∃ us, SU W u us := by
  obtain ⟨l, hl, hq⟩ := list_of n _ hg
  refine ⟨l, ?_, fun x hx => ?_⟩
  · rw [hl]
    obtain ⟨a, cap, h1, h2, h3, h4, h5, h6⟩ := hs.form
    refine ⟨a, cap, h1, h2, h3, h4, h5, fun x hx => ⟨(h6 x hx).1, fun i hi j hj => ?_⟩⟩
    obtain ⟨v, hv, hF⟩ := (h6 x hx).2 i hi j hj
    have hi2 : i < l.length := by omega
    rw [(hq i hi2).1] at hF
    refine ⟨v, hv, l[i], List.getElem?_eq_getElem hi2, ?_⟩
    have hj2 : j = 0 ∨ j = 1 := by omega
    rcases hj2 with rfl | rfl <;> simpa using hF.symm
  · obtain ⟨i, hi, rfl⟩ := List.getElem_of_mem hx
    exact (hq i hi).2
theorem si_of {u : Value} {n : Nat} {C : Nat → List Value} (hs : SL W u n 4 (fun i j v => (C i)[j]? = some v)) (hg : ∀ i, i < n → ∃ x : Ins, C i = [.int .i64 x.op, .int .i64 x.a, .int .i64 x.b, .int .i64 x.c] ∧ x.ok) : ∃ us, SI W u us := by
  obtain ⟨l, hl, hq⟩ := list_of n _ hg
  refine ⟨l, ?_, fun x hx => ?_⟩
  · rw [hl]
    obtain ⟨a, cap, h1, h2, h3, h4, h5, h6⟩ := hs.form
    refine ⟨a, cap, h1, h2, h3, h4, h5, fun x hx => ⟨(h6 x hx).1, fun i hi j hj => ?_⟩⟩
    obtain ⟨v, hv, hF⟩ := (h6 x hx).2 i hi j hj
    have hi2 : i < l.length := by omega
    rw [(hq i hi2).1] at hF
    refine ⟨v, hv, l[i], List.getElem?_eq_getElem hi2, ?_⟩
    have hj2 : j = 0 ∨ j = 1 ∨ j = 2 ∨ j = 3 := by omega
    rcases hj2 with rfl | rfl | rfl | rfl <;> simpa using hF.symm
  · obtain ⟨i, hi, rfl⟩ := List.getElem_of_mem hx
    exact (hq i hi).2
theorem sv_of {u : Value} {n : Nat} {C : Nat → List Value} (hs : SL W u n 4 (fun i j v => (C i)[j]? = some v)) (hg : ∀ i, i < n → ∃ x : Vl, C i = [.int .i64 x.k, .int .u64 x.n, .string x.s, .int .i64 x.o] ∧ x.ok) : ∃ us, SV W u us := by
  obtain ⟨l, hl, hq⟩ := list_of n _ hg
  refine ⟨l, ?_, fun x hx => ?_⟩
  · rw [hl]
    obtain ⟨a, cap, h1, h2, h3, h4, h5, h6⟩ := hs.form
    refine ⟨a, cap, h1, h2, h3, h4, h5, fun x hx => ⟨(h6 x hx).1, fun i hi j hj => ?_⟩⟩
    obtain ⟨v, hv, hF⟩ := (h6 x hx).2 i hi j hj
    have hi2 : i < l.length := by omega
    rw [(hq i hi2).1] at hF
    refine ⟨v, hv, l[i], List.getElem?_eq_getElem hi2, ?_⟩
    have hj2 : j = 0 ∨ j = 1 ∨ j = 2 ∨ j = 3 := by omega
    rcases hj2 with rfl | rfl | rfl | rfl <;> simpa using hF.symm
  · obtain ⟨i, hi, rfl⟩ := List.getElem_of_mem hx
    exact (hq i hi).2
theorem sp_of {u : Value} {n : Nat} {C : Nat → List Value} (hs : SL W u n 6 (fun i j v => (C i)[j]? = some v)) (hg : ∀ i, i < n → ∃ x : Pr × Six, C i = [.int .i64 x.2.pa, .int .i64 x.2.rg, x.2.u, x.2.c, x.2.k, x.2.p] ∧ PR W x.1 x.2) : ∃ (ps : List Pr) (f : Nat → Six), SL W u ps.length 6 (fun i j v => v = (f i).at j) ∧ ∀ i (h : i < ps.length), PR W ps[i] (f i) := by
  obtain ⟨l, hl, hq⟩ := list_of n _ hg
  subst hl
  refine ⟨l.map (·.1), fun i => if h : i < l.length then l[i].2 else ⟨0, 0, undef, undef, undef, undef⟩, ?_, fun i hi => ?_⟩
  · rw [List.length_map]
    obtain ⟨a, cap, h1, h2, h3, h4, h5, h6⟩ := hs.form
    refine ⟨a, cap, h1, h2, h3, h4, h5, fun x hx => ⟨(h6 x hx).1, fun i hi j hj => ?_⟩⟩
    obtain ⟨v, hv, hF⟩ := (h6 x hx).2 i hi j hj
    have hi2 : i < l.length := hi
    rw [(hq i hi2).1] at hF
    refine ⟨v, hv, ?_⟩
    simp only [dif_pos hi2]
    have hj2 : j = 0 ∨ j = 1 ∨ j = 2 ∨ j = 3 ∨ j = 4 ∨ j = 5 := by omega
    rcases hj2 with rfl | rfl | rfl | rfl | rfl | rfl <;> simpa [Six.at] using hF.symm
  · have hi2 : i < l.length := by rw [List.length_map] at hi; exact hi
    simp only [List.getElem_map, dif_pos hi2]
    exact (hq i hi2).2

theorem proto_open : ∀ (fuel : Nat) (cs : List Value) (x : DataW H × List MemPlace), DataW.trod enc Tryd.prog W 0 sp held fuel 27 cs = some x → (∀ m ∈ x.1.weights Tryd.prog 27, m ≤ reachBytes) → ∃ y : Pr × Six, cs = [.int .i64 y.2.pa, .int .i64 y.2.rg, y.2.u, y.2.c, y.2.k, y.2.p] ∧ PR W y.1 y.2 := by
  intro fuel
  induction fuel using Nat.strongRecOn with
  | _ fuel ih =>
  intro cs x h hw
  obtain ⟨xs, n, hn, hd, hlen, hxl, hf⟩ := DataW.trod_struct Tryd.underlying27 h
  rw [cellsPr] at hlen
  obtain ⟨c0, c1, c2, c3, c4, c5, rfl⟩ := list6 hlen
  have h0 : DataW.trod enc Tryd.prog W 0 sp held n 3 (([c0, c1, c2, c3, c4, c5].drop 0).take (Tryd.prog.cellsOf 3)) = xs[0]? := hf 0 _ rfl
  have h1 : DataW.trod enc Tryd.prog W 0 sp held n 3 (([c0, c1, c2, c3, c4, c5].drop 1).take (Tryd.prog.cellsOf 3)) = xs[1]? := hf 1 _ rfl
  have h2 : DataW.trod enc Tryd.prog W 0 sp held n 22 (([c0, c1, c2, c3, c4, c5].drop 2).take (Tryd.prog.cellsOf 22)) = xs[2]? := hf 2 _ rfl
  have h3 : DataW.trod enc Tryd.prog W 0 sp held n 23 (([c0, c1, c2, c3, c4, c5].drop 3).take (Tryd.prog.cellsOf 23)) = xs[3]? := hf 3 _ rfl
  have h4 : DataW.trod enc Tryd.prog W 0 sp held n 24 (([c0, c1, c2, c3, c4, c5].drop 4).take (Tryd.prog.cellsOf 24)) = xs[4]? := hf 4 _ rfl
  have h5 : DataW.trod enc Tryd.prog W 0 sp held n 25 (([c0, c1, c2, c3, c4, c5].drop 5).take (Tryd.prog.cellsOf 25)) = xs[5]? := hf 5 _ rfl
  obtain ⟨y0, e0⟩ := some_atP hxl (i := 0) (by decide)
  obtain ⟨y1, e1⟩ := some_atP hxl (i := 1) (by decide)
  obtain ⟨y2, e2⟩ := some_atP hxl (i := 2) (by decide)
  obtain ⟨y3, e3⟩ := some_atP hxl (i := 3) (by decide)
  obtain ⟨y4, e4⟩ := some_atP hxl (i := 4) (by decide)
  obtain ⟨y5, e5⟩ := some_atP hxl (i := 5) (by decide)
  rw [e0] at h0
  rw [e1] at h1
  rw [e2] at h2
  rw [e3] at h3
  rw [e4] at h4
  rw [e5] at h5
  simp only [cellsInt1, cellsRU, cellsRI, cellsRV, cellsRP, List.drop_zero, List.drop_succ_cons, List.take_succ_cons, List.take_zero] at h0 h1 h2 h3 h4 h5
  have hw' : ∀ (j : Nat) (tt : TypeId) (d : DataW H), [3, 3, 22, 23, 24, 25][j]? = some tt → (xs.map (·.1))[j]? = some d → ∀ m ∈ d.weights Tryd.prog tt, m ≤ reachBytes := by
    intro j tt d h1 h2 m hm
    refine hw m ?_
    rw [hd]
    simp only [DataW.weights, Tryd.underlying27]
    exact DataW.weights_mem_each (ts := [3, 3, 22, 23, 24, 25]) h1 h2 m hm
  obtain ⟨k0, hk0, _, w0⟩ := DataW.trod_int Tryd.underlying3 h0
  obtain ⟨k1, hk1, _, w1⟩ := DataW.trod_int Tryd.underlying3 h1
  injection hk0 with hk0 _
  injection hk1 with hk1 _
  subst hk0 hk1
  obtain ⟨n2, C2, s2, g2⟩ := row_open (by decide) _ Tryd.underlying22 cellsUp bytesUp (by decide) h2 (hw' 2 _ _ rfl (by rw [List.getElem?_map, e2]; rfl)) (fun q cs x _ h _ => up_open q cs x h)
  obtain ⟨n3, C3, s3, g3⟩ := row_open (by decide) _ Tryd.underlying23 cellsIns bytesIns (by decide) h3 (hw' 3 _ _ rfl (by rw [List.getElem?_map, e3]; rfl)) (fun q cs x _ h _ => ins_open q cs x h)
  obtain ⟨n4, C4, s4, g4⟩ := row_open (by decide) _ Tryd.underlying24 cellsVl bytesVl (by decide) h4 (hw' 4 _ _ rfl (by rw [List.getElem?_map, e4]; rfl)) (fun q cs x _ h hh => vl_open q cs x h hh)
  obtain ⟨n5, C5, s5, g5⟩ := row_open (by decide) _ Tryd.underlying25 cellsPr bytesPr (by decide) h5 (hw' 5 _ _ rfl (by rw [List.getElem?_map, e5]; rfl)) (fun q cs x hq h hh => ih q (by omega) cs x h hh)
  obtain ⟨us, hu⟩ := su_of s2 g2
  obtain ⟨is, hi⟩ := si_of s3 g3
  obtain ⟨ks, hk⟩ := sv_of s4 g4
  obtain ⟨ps, f, hp, hf'⟩ := sp_of s5 g5
  refine ⟨(.mk k0 k1 us is ks ps, ⟨k0, k1, c2, c3, c4, c5⟩), rfl, ?_⟩
  rw [PR_mk]
  exact ⟨rfl, rfl, i64_of w0, i64_of w1, hu, hi, hk, f, hp, hf'⟩
end

/-- A function that came in. -/
theorem open_proto {H : Type} {enc : TypeId × Value → H} {W : World} {base : Nat} {v : Value} {d : DataW H} {p : List MemPlace}
    (hval : Value.okWide Tryd.prog W .any base 27 v) (h0 : DataW.Trod enc Tryd.prog W 0 (fun _ => true) true 27 v d p) {ts : List TypeId} {ds : List (DataW H)} (hz : (DataW.weightsEach Tryd.prog ts ds).all (· ≤ reachBytes) = true) {j : Nat} (ht : ts[j]? = some 27) (hd : ds[j]? = some d) : ∃ (t : Pr) (x : Six), v = x.v ∧ PR W t x := by
  obtain ⟨fuel, hf⟩ := h0
  obtain ⟨⟨t, x⟩, e, hc⟩ := proto_open fuel _ _ hf (fun m hm => by
    have := List.all_eq_true.1 hz m (DataW.weights_mem_each ht hd m hm)
    simpa using this)
  simp only [Value.okWide, Tryd.underlying27] at hval
  obtain ⟨cs, rfl, _⟩ := hval
  refine ⟨t, x, ?_, hc⟩
  have : cs = #[.int .i64 x.pa, .int .i64 x.rg, x.u, x.c, x.k, x.p] := by
    simp [Value.cells] at e
    apply Array.ext'
    exact e
  rw [this]
  rfl

end Go.Proofs.YtcblknghkgihcaaDoor
