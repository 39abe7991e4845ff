/-
  Layer 7: the landed List and copied, walked.
-/
import Derived.Test.YtjngknnkffbnmaaDoorCdRAnyq
import Derived.Laws.OwnMore
namespace Go.Proofs.YtjngknnkffbnmaaDoor
set_option maxRecDepth 100000
open Go.RowKit Crc

/-- A tree in its plain form, as copied gives it. -/
def cpT : Tr → Tr
  | .mk k n s ts => if k = 0 then .mk 0 n ⟨#[]⟩ [] else if k = 1 then .mk 1 0 s [] else if k = 2 then .mk 2 0 ⟨#[]⟩ (ts.map cpT) else .mk k 0 ⟨#[]⟩ []
def cpL (ts : List Tr) : List Tr := ts.map cpT
theorem cpT_mk (k : Int) (n : Nat) (s : ByteArray) (ts : List Tr) : cpT (.mk k n s ts) = if k = 0 then .mk 0 n ⟨#[]⟩ [] else if k = 1 then .mk 1 0 s [] else if k = 2 then .mk 2 0 ⟨#[]⟩ (cpL ts) else .mk k 0 ⟨#[]⟩ [] := by rw [cpT]; rfl
theorem cpL_nil : cpL [] = [] := rfl
theorem cpL_cons (t : Tr) (ts : List Tr) : cpL (t :: ts) = cpT t :: cpL ts := rfl

theorem cpL_map (ts : List Tr) : cpL ts = ts.map cpT := rfl

def flat (ks : Nat → Int) (ns : Nat → Nat) (ss : Nat → ByteArray) (us : Nat → Value) : Nat → List Value
  | 0 => []
  | N + 1 => flat ks ns ss us N ++ quad (ks N) (ns N) (ss N) (us N)

theorem flat_length (ks : Nat → Int) (ns : Nat → Nat) (ss : Nat → ByteArray) (us : Nat → Value) : ∀ N, (flat ks ns ss us N).length = N * 4
  | 0 => rfl
  | N + 1 => by simp only [flat, List.length_append, flat_length ks ns ss us N, quad, List.length_cons, List.length_nil]; omega

theorem Quads.ext {xs : List Value} {N : Nat} {ks ks' : Nat → Int} {ns ns' : Nat → Nat} {ss ss' : Nat → ByteArray} {us us' : Nat → Value} (h : Quads xs N ks ns ss us) (e : ∀ i, i < N → ks' i = ks i ∧ ns' i = ns i ∧ ss' i = ss i ∧ us' i = us i) : Quads xs N ks' ns' ss' us' :=
  ⟨fun i hi => by rw [(e i hi).1]; exact h.q0 i hi, fun i hi => by rw [(e i hi).2.1]; exact h.q1 i hi, fun i hi => by rw [(e i hi).2.2.1]; exact h.q2 i hi, fun i hi => by rw [(e i hi).2.2.2]; exact h.q3 i hi⟩

theorem flat_quads (ks : Nat → Int) (ns : Nat → Nat) (ss : Nat → ByteArray) (us : Nat → Value) : ∀ N, Quads (flat ks ns ss us N) N ks ns ss us
  | 0 => ⟨fun i h => by omega, fun i h => by omega, fun i h => by omega, fun i h => by omega⟩
  | N + 1 => by
    refine Quads.ext ((flat_quads ks ns ss us N).snoc (flat_length ks ns ss us N) (ks N) (ns N) (ss N) (us N)) (fun i hi => ?_)
    by_cases c : i = N
    · subst c; simp
    · simp [c]

theorem flat_one (ks : Nat → Int) (ns : Nat → Nat) (ss : Nat → ByteArray) (us : Nat → Value) : ∀ N, (∀ i, i < N → (us i).oneCell' = true) → ∀ u ∈ flat ks ns ss us N, u.oneCell' = true
  | 0, _, u, hu => by simp [flat] at hu
  | N + 1, h, u, hu => by
    simp only [flat, List.mem_append] at hu
    rcases hu with hu | hu
    · exact flat_one ks ns ss us N (fun i hi => h i (by omega)) u hu
    · simp [quad] at hu
      rcases hu with rfl | rfl | rfl | rfl
      · rfl
      · rfl
      · rfl
      · exact h N (by omega)

/-- The cells of a slice that reads as cells, as one list. -/
theorem flat_cells {w : World} {g o N : Nat} {ks : Nat → Int} {ns : Nat → Nat} {ss : Nat → ByteArray} {us : Nat → Value} (h : ∀ i, i < N → Lies w g o i (ks i) (ns i) (ss i) (us i)) :
    ∀ j u, (flat ks ns ss us N)[j]? = some u → w.cell? (Addr.add ⟨g, o, none⟩ j) = some u := by
  intro j u hu
  have hj : j < N * 4 := by
    rcases Nat.lt_or_ge j (N * 4) with h1 | h1
    · exact h1
    · rw [List.getElem?_eq_none (by rw [flat_length]; exact h1)] at hu; cases hu
  have ha : Addr.add ⟨g, o, none⟩ j = ⟨g, o + j, none⟩ := by unfold Addr.add; split <;> simp_all
  rw [ha]
  have hq := flat_quads ks ns ss us N
  obtain ⟨i, r, rfl, hr⟩ : ∃ i r, j = i * 4 + r ∧ r < 4 := ⟨j / 4, j % 4, by omega, by omega⟩
  have hi : i < N := by omega
  match r, hr with
  | 0, _ => rw [Nat.add_zero, hq.q0 i hi] at hu; rw [← hu, Nat.add_zero]; exact (h i hi).c0
  | 1, _ => rw [hq.q1 i hi] at hu; rw [← hu, ← Nat.add_assoc]; exact (h i hi).c1
  | 2, _ => rw [hq.q2 i hi] at hu; rw [← hu, ← Nat.add_assoc]; exact (h i hi).c2
  | 3, _ => rw [hq.q3 i hi] at hu; rw [← hu, ← Nat.add_assoc]; exact (h i hi).c3

/-- One place of a row laid anew. -/
theorem Quads.put {xs : List Value} {N : Nat} {ks : Nat → Int} {ns : Nat → Nat} {ss : Nat → ByteArray} {us : Nat → Value} (h : Quads xs N ks ns ss us) (hl : xs.length = N * 4) (i : Nat) (hi : i < N) (k : Int) (n : Nat) (s : ByteArray) (u : Value) :
    Quads ((((xs.set (i * 4) (.int .i64 k)).set (i * 4 + 1) (.int .u64 n)).set (i * 4 + 2) (.string s)).set (i * 4 + 3) u) N (fun j => if j = i then k else ks j) (fun j => if j = i then n else ns j) (fun j => if j = i then s else ss j) (fun j => if j = i then u else us j) := by
  refine ⟨?_, ?_, ?_, ?_⟩
  all_goals
    intro j hj
    by_cases c : j = i
    · subst c
      simp only [List.getElem?_set, List.length_set, if_true]
      repeat (first | rw [if_neg (by omega)] | rw [if_pos (by omega)])
    · simp only [List.getElem?_set, c, if_false]
      repeat rw [if_neg (by omega)]
      first
        | exact h.q0 j hj
        | exact h.q1 j hj
        | exact h.q2 j hj
        | exact h.q3 j hj

theorem run_append_none {P : Program} (w : World) (t ty e : TypeId) (i : TypeInfo) (ht : P.underlying t = some (.slice e)) (hi : P.info? e = some i) (a : Option Addr) (cap : Nat) :
    (Builtin.append_ #[t, t] ty #[.slice none 0 0, .slice a 0 cap]).run P w = .ok (.slice none 0 0) w := by
  cases a <;> simp [Builtin.append_, run_underlying ht, sizeOf, typeInfo, hi, Builtin.lenOf, Builtin.firstCells, loadCells, loadCellsFrom]

theorem wpList_append_none {w : World} {ops : Array Oper} {rest : List Oper} {o : Oper} {a : Act} {Q : Exit → Act → World → Prop} (hgd : o.guard = none) (s x : Operand)
    (ho : o.op = .call { callee := .builtin .append, args := #[s, x], argTypes := #[24, 24] }) (hs : a.eval s = .slice none 0 0) (ad : Option Addr) (cap : Nat) (hx : a.eval x = .slice ad 0 cap)
    (h : wpList Tryd.prog ops Q rest (a.put o.dst (.slice none 0 0)) w) : wpList Tryd.prog ops Q (o :: rest) a w := by
  obtain ⟨i0, hi0, hz0, hz1, hz2⟩ := info_parts info25b
  refine wpList_plain hgd fun K hK => ?_
  have hrun := run_append_none (P := Tryd.prog) w 24 o.type 26 i0 Tryd.underlying24 hi0 ad cap
  unfold Oper.wp
  simp [execOp, ho, resolve, invoke, builtin, hs, hx, hrun, Result.andThen]
  exact hK _ _ h

/-- What copied and List tell. -/
def Copd (t : Tr) (w : World) (e : Ending) (w' : World) : Prop := ∃ v', e = .returned v' ∧ CS w' (fun k => w.heap.size ≤ k) t v' ∧ Below w.heap.size w w'

/-- A row of cells of one's own, the first i of them copied, the others as they were. -/
def RowI (w : World) (B : Nat) (v : Value) (ts : List Tr) (i : Nat) (ks : Nat → Int) (ns : Nat → Nat) (ss : Nat → ByteArray) (us : Nat → Value) : Prop :=
  ∃ (xs : List Value) (ks' : Nat → Int) (ns' : Nat → Nat) (ss' : Nat → ByteArray) (us' : Nat → Value), w.ownsRow B 26 4 v ts.length xs ∧ Quads xs ts.length ks' ns' ss' us' ∧
    (∀ j (h : j < ts.length), j < i → CS w (fun k => B ≤ k ∧ v.ownBlock ≠ some k ∧ k < w.heap.size) (cpT ts[j]) (cellV (ks' j) (ns' j) (ss' j) (us' j))) ∧
    (∀ j, i ≤ j → j < ts.length → ks' j = ks j ∧ ns' j = ns j ∧ ss' j = ss j ∧ us' j = us j)

theorem RowI.done {w : World} {B : Nat} {v : Value} {ts : List Tr} {ks : Nat → Int} {ns : Nat → Nat} {ss : Nat → ByteArray} {us : Nat → Value} (h : RowI w B v ts ts.length ks ns ss us) : TW w B v (ts.map cpT) := by
  obtain ⟨xs, ks', ns', ss', us', h1, h2, h3, _⟩ := h
  refine ⟨xs, ks', ns', ss', us', by rw [List.length_map]; exact h1, by rw [List.length_map]; exact h2, fun i hi => ?_⟩
  rw [List.length_map] at hi
  rw [List.getElem_map]
  exact (h3 i hi hi).widen (fun k hk => ⟨hk.1, hk.2.1, hk.2.2, trivial⟩)

/-- One more is copied and laid in its place. -/
theorem RowI.step {w w2 W : World} {B g cap : Nat} {ts : List Tr} {i : Nat} {ks : Nat → Int} {ns : Nat → Nat} {ss : Nat → ByteArray} {us : Nat → Value} {k : Int} {n : Nat} {s : ByteArray} {u : Value}
    (h : RowI w B (.slice (some ⟨g, 0, none⟩) ts.length cap) ts i ks ns ss us) (hi : i < ts.length) (hb : Below w.heap.size w w2) (hc : CS w2 (fun k => w.heap.size ≤ k) (cpT ts[i]) (cellV k n s u))
    (hW : W = (((w2.setCell ⟨g, i * 4, none⟩ (.int .i64 k)).setCell ⟨g, i * 4 + 1, none⟩ (.int .u64 n)).setCell ⟨g, i * 4 + 2, none⟩ (.string s)).setCell ⟨g, i * 4 + 3, none⟩ u) :
    RowI W B (.slice (some ⟨g, 0, none⟩) ts.length cap) ts (i + 1) ks ns ss us := by
  obtain ⟨xs, ks', ns', ss', us', h1, h2, h3, h4⟩ := h
  have hlt := h1.lt g rfl
  have hsz := hb.size
  have r0 : w2.ownsRow B 26 4 (.slice (some ⟨g, 0, none⟩) ts.length cap) ts.length xs := ownsRow_far h1 (hb.block g hlt.2) rfl
  have r1 := (r0.stored (i * 4) (.int .i64 k)).1
  have r2 := (r1.stored (i * 4 + 1) (.int .u64 n)).1
  have r3 := (r2.stored (i * 4 + 2) (.string s)).1
  have r4 := (r3.stored (i * 4 + 3) u).1
  have hoth : ∀ j, j ≠ g → W.heap[j]? = w2.heap[j]? := by
    intro j hj
    rw [hW, heap_setCell_other _ _ _ _ hj, heap_setCell_other _ _ _ _ hj, heap_setCell_other _ _ _ _ hj, heap_setCell_other _ _ _ _ hj]
  have hWs : W.heap.size = w2.heap.size := by rw [hW]; simp
  refine ⟨_, _, _, _, _, by rw [hW]; exact r4, h2.put h1.1 i hi k n s u, fun j hj hji => ?_, fun j hj hjn => ?_⟩
  · by_cases c : j = i
    · subst c
      simp only [if_true]
      refine (hc.real.kept (w' := W) (fun q hq => hoth q (by omega))).widen (fun q hq => ⟨by omega, fun e => ?_, by omega⟩)
      simp [Value.ownBlock] at e
      omega
    · simp only [c, if_false]
      refine ((h3 j hj (by omega)).kept (w' := W) (fun q hq => ?_)).widen (fun q hq => ⟨hq.1, hq.2.1, by omega⟩)
      rw [hoth q (fun e => hq.2.1 (by rw [e]; rfl))]
      exact hb.block q hq.2.2
  · have c : ¬ j = i := by omega
    simp only [c, if_false]
    exact h4 j (by omega) hjn

theorem len_cnts : ∀ l : List Tr, l.length ≤ cnts l := by
  intro l
  induction l with
  | nil => simp [cnts_nil]
  | cons t l ih => simp only [cnts_cons, List.length_cons]; have := cnt_pos t; omega
theorem cnts_get : ∀ {l : List Tr} (i : Nat) (h : i < l.length), l[i].cnt ≤ cnts l
  | a :: l, 0, _ => by rw [cnts_cons]; simp
  | a :: l, i + 1, h => by
    have := cnts_get (l := l) i (by simpa using h)
    rw [cnts_cons]; simp; omega

set_option maxHeartbeats 4000000 in
theorem list_of (D : Nat) (HC : ∀ (t : Tr) (v : Value) (w : World), t.dep < D → t.cnt ≤ 1000000 → CR w t v → Calls Tryd.prog 59 #[v] w (Copd (cpT t) w))
    (ts : List Tr) (a : Option Addr) (cap : Nat) (k0 : Int) (n0 : Nat) (s0 : ByteArray) (w : World) (hD : deps ts ≤ D) (hcnt : cnts ts ≤ 1000000) (h : CR w (.mk k0 n0 s0 ts) (cellV k0 n0 s0 (.slice a ts.length cap))) :
    Calls Tryd.prog 42 #[.slice a ts.length cap] w (Copd (.mk 2 0 ⟨#[]⟩ (ts.map cpT)) w) := by
  obtain ⟨i0, hi0, hz0, hz1, hz2⟩ := info_parts info25b
  generalize hv : cellV k0 n0 s0 (.slice a ts.length cap) = v0 at h
  cases h using CR.elim with
  | mk k n s _ a' cap' ks ns ss us hk hn hs hl hc h0 hx hr =>
  unfold cellV at hv
  simp only [Value.agg.injEq, Array.mk.injEq, List.cons.injEq, Value.slice.injEq, and_true, true_and] at hv
  obtain ⟨rfl, rfl⟩ := hv
  have HCC : Hid _ := HC
  obtain ⟨w1, hw1⟩ : ∃ w1, w1 = w.alloc (.cells #[.int .i64 0, .int .u64 0, .string ⟨#[]⟩, .slice none 0 0] 26) := ⟨_, rfl⟩
  have hs1 : w1.heap.size = w.heap.size + 1 := by rw [hw1]; simp
  have HRC : Hid (Rc w1 w.heap.size) := by show Rc _ _; rw [hw1]; exact heap_alloc_new _ _
  have HB1 : Hid (Below w.heap.size w w1) := by show Below _ _ _; rw [hw1]; exact (Below.refl _ _).alloc (Nat.le_refl _) _
  have HR : Hid (∀ i (h : i < ts.length), CR w ts[i] (cellV (ks i) (ns i) (ss i) (us i))) := hr
  have HX : Hid (∀ x i, a = some x → i < ts.length → x.spot = none ∧ Lies w x.block x.off i (ks i) (ns i) (ss i) (us i)) := hx
  have HD : Hid (deps ts ≤ D ∧ cnts ts ≤ 1000000) := ⟨hD, hcnt⟩
  have hN6 : ts.length ≤ 1000000 := by have := len_cnts ts; omega
  clear hr hx HC hD hcnt
  obtain ⟨N, hN⟩ : ∃ N, N = ts.length := ⟨_, rfl⟩
  have HN : Hid (N = ts.length) := hN
  by_cases cN : ts.length = 0
  · have e : ts = [] := List.eq_nil_of_length_eq_zero cN
    have HE : Hid (∀ W : World, W = (((w1.setCell ⟨w.heap.size, 0, none⟩ (.int .i64 2)).setCell ⟨w.heap.size, 1, none⟩ (.int .u64 (0 : Nat))).setCell ⟨w.heap.size, 2, none⟩ (.string ⟨#[]⟩)).setCell ⟨w.heap.size, 3, none⟩ (.slice none 0 0) → W.heap[w.heap.size]? = some (.cells #[.int .i64 2, .int .u64 (0 : Nat), .string ⟨#[]⟩, .slice none 0 0] 26 (0, 0)) ∧ Copd (.mk 2 0 ⟨#[]⟩ (ts.map cpT)) w (.returned (.agg #[.int .i64 2, .int .u64 (0 : Nat), .string ⟨#[]⟩, .slice none 0 0])) W) := by
      intro W hW
      refine ⟨(HRC.out.set 2 0 ⟨#[]⟩ (.slice none 0 0) hW).1, _, rfl, ?_, ?_⟩
      · rw [e]; exact CS_flat _ _ 2 0 ⟨#[]⟩ (by decide) (by decide) (by decide)
      · rw [hW]; exact (((HB1.out.setCell (Nat.le_refl _) _).setCell (Nat.le_refl _) _).setCell (Nat.le_refl _) _).setCell (Nat.le_refl _) _
    rw [cN]
    clear e cN hl h0
    have hrc4 := HRC.out
    have c0 := hrc4.cell 0
    have c1 := hrc4.cell 1
    have c2 := hrc4.cell 2
    have c3 := hrc4.cell 3
    have f0 := hrc4.free 0
    have f1 := hrc4.free 1
    have f2 := hrc4.free 2
    have f3 := hrc4.free 3
    clear hrc4
    go_enter Tryd.func42, Tryd.ntmps42
    go_wp2_with (at_builtin; refine wpList_append_none rfl _ _ rfl rfl _ _ rfl ?_)
    rw [← hw1]
    clear hw1
    go_loopw [10] (fun t10 wr => t10 = .int .i64 0 ∧ wr = w1) (fun _ _ => 0)
    case atStart => exact ⟨rfl, rfl⟩
    case round =>
      obtain ⟨rfl, rfl⟩ := hrel
      go_wp2
      obtain ⟨y1, y2⟩ := HE.out _ rfl
      exact bodyPost_ret (results_cell_row rfl _ _ w.heap.size _ _ _ _ rfl y1 Tryd.underlying26 rfl info25) rfl y2
  · obtain ⟨x, hx⟩ : ∃ x, a = some x := by
      cases a with
      | some x => exact ⟨x, rfl⟩
      | none => rw [h0 rfl] at cN; exact absurd rfl cN
    subst hx
    have hsp := (HX.out x 0 rfl (by omega)).1
    obtain ⟨g, o, sp⟩ := x
    simp only at hsp
    subst hsp
    have hus : ∀ i, i < ts.length → ∃ ai mi ci, us i = .slice ai mi ci := by
      intro i hi
      obtain ⟨_, _, _, ai, mi, ci, e⟩ := (HR.out i hi).cs.form
      unfold cellV at e
      simp at e
      exact ⟨ai, mi, ci, e.2.2.2⟩
    have HUS : Hid _ := hus
    have hnews := flat_cells (w := w1) (fun i hi => (HX.out _ i rfl hi).2.below HB1.out (Nat.le_refl _))
    have hone := flat_one ks ns ss us ts.length (fun i hi => by obtain ⟨_, _, _, e⟩ := hus i hi; rw [e]; rfl)
    have hflen := flat_length ks ns ss us ts.length
    have HFQ : Hid (Quads (flat ks ns ss us ts.length) ts.length ks ns ss us) := flat_quads ks ns ss us ts.length
    generalize flat ks ns ss us ts.length = fl at *
    rw [← hN] at hflen hl cN hN6 ⊢
    have hN0 : 0 < N := by omega
    clear hN h0 hus
    go_enter Tryd.func42, Tryd.ntmps42
    go_wp2_with (at_builtin; rw [← hw1]; refine wpList_append_lies _ rfl _ _ 24 rfl (w.heap.size + 1) 26 i0 _ 4 56 Tryd.underlying24 hi0 hz0 hz1 hz2 rfl (by decide) (.slice none 0 0) 0 [] rfl (World.ownsRow_nil _ _ _ _) ⟨g, o, none⟩ N cap fl rfl hflen hnews hone hN0 (by unfold maxLen; omega) (by omega) (by omega) (w.heap.size + 1) hs1 ?_)
    intro g3 cap3 w3 hown3 hgrow3 hat3 hlt3
    have hg3 : w.heap.size + 1 ≤ g3 := by
      rcases hat3 with e | e
      · simp [Value.ownBlock] at e
      · omega
    rw [← hw1] at hgrow3
    have HB3 : Hid (Below (w.heap.size + 1) w1 w3) := (Below.refl _ _).grown hgrow3 (by omega) (fun k hk => by cases hk)
    have HI0 : Hid (RowI w3 (w.heap.size + 1) (.slice (some ⟨g3, 0, none⟩) N cap3) ts 0 ks ns ss us) := by
      refine ⟨fl, ks, ns, ss, us, by rw [← HN.out]; exact hown3, HFQ.out, fun j _ h => absurd h (Nat.not_lt_zero _), fun j _ _ => ⟨rfl, rfl, rfl, rfl⟩⟩
    clear hw1 hown3 hgrow3 hat3 hnews hone hflen
    go_wp2_with fail
    go_loopw [10] (fun t10 wr => ∃ i : Nat, i ≤ N ∧ t10 = .int .i64 i ∧ Hid (RowI wr (w.heap.size + 1) (.slice (some ⟨g3, 0, none⟩) N cap3) ts i ks ns ss us) ∧ Hid (Below (w.heap.size + 1) w1 wr)) (fun t10 _ => N - (intOf t10).toNat)
    case atStart => exact ⟨0, Nat.zero_le _, rfl, HI0, HB3⟩
    case round =>
      obtain ⟨i, hi, rfl, HI, HW⟩ := hrel
      have hsz := HW.out.size
      have hbw : Below w.heap.size w wr := HB1.out.trans (HW.out.mono (by omega))
      by_cases c : i < N
      · have i1 : i < ts.length := by rw [← HN.out]; exact c
        obtain ⟨xs, ks', ns', ss', us', r1, r2, r3, r4⟩ := HI.out
        obtain ⟨e1, e2, e3, e4⟩ := r4 i (Nat.le_refl _) i1
        rw [← HN.out] at r1
        have l0 : wr.cell? ⟨g3, i * 4, none⟩ = some (.int .i64 (ks i)) := by rw [r1.cellAt _ (by omega), r2.q0 i i1, e1]
        have l1 : wr.cell? ⟨g3, i * 4 + 1, none⟩ = some (.int .u64 (ns i)) := by rw [r1.cellAt _ (by omega), r2.q1 i i1, e2]
        have l2 : wr.cell? ⟨g3, i * 4 + 2, none⟩ = some (.string (ss i)) := by rw [r1.cellAt _ (by omega), r2.q2 i i1, e3]
        obtain ⟨ai, mi, ci, hus⟩ := HUS.out i i1
        have l3 : wr.cell? ⟨g3, i * 4 + 3, none⟩ = some (.slice ai mi ci) := by rw [r1.cellAt _ (by omega), r2.q3 i i1, e4, hus]
        have hglt := (r1.lt g3 rfl).2
        have hcr := HR.out i i1
        rw [hus] at hcr
        have hba : Below w.heap.size w (wr.alloc (.cells #[.int .i64 (ks i), .int .u64 (ns i), .string (ss i), .slice ai mi ci] 26)) := hbw.alloc (by omega) _
        have hcall := HCC.out ts[i] _ (wr.alloc (.cells #[.int .i64 (ks i), .int .u64 (ns i), .string (ss i), .slice ai mi ci] 26)) (by have := deps_get i i1; have := HD.out.1; omega) (by have := cnts_get i i1; have := HD.out.2; omega) (hcr.kept hba (Nat.le_refl _))
        unfold cellV at hcall
        have HR1 : Hid (wr.ownsRow (w.heap.size + 1) 26 4 (.slice (some ⟨g3, 0, none⟩) N cap3) N xs) := r1
        clear r1 r2 r3 r4 e1 e2 e3 e4 hcr hba hbw
        go_wp2_with fail
        refine hcall.mono ?_
        rintro e w5 ⟨v5, rfl, q1, q2⟩
        obtain ⟨k5, n5, s5, a5, m5, cap5, rfl⟩ := q1.form
        have hsz5 := q2.size
        have hza : (wr.alloc (.cells #[.int .i64 (ks i), .int .u64 (ns i), .string (ss i), .slice ai mi ci] 26)).heap.size = wr.heap.size + 1 := by simp
        have hb5 : Below wr.heap.size wr w5 := ((Below.refl _ wr).alloc (Nat.le_refl _) _).trans (q2.mono (by omega))
        have r5 : w5.ownsRow (w.heap.size + 1) 26 4 (.slice (some ⟨g3, 0, none⟩) N cap3) N xs := ownsRow_far HR1.out (hb5.block g3 hglt) rfl
        have l0 : w5.cell? ⟨g3, i * 4, none⟩ = some (.int .i64 (ks i)) := cell_kept hb5 (Nat.le_refl _) l0
        have l1 : w5.cell? ⟨g3, i * 4 + 1, none⟩ = some (.int .u64 (ns i)) := cell_kept hb5 (Nat.le_refl _) l1
        have l2 : w5.cell? ⟨g3, i * 4 + 2, none⟩ = some (.string (ss i)) := cell_kept hb5 (Nat.le_refl _) l2
        have l3 : w5.cell? ⟨g3, i * 4 + 3, none⟩ = some (.slice ai mi ci) := cell_kept hb5 (Nat.le_refl _) l3
        have f0 := r5.frozenAt (i * 4)
        have f1 := r5.frozenAt (i * 4 + 1)
        have f2 := r5.frozenAt (i * 4 + 2)
        have f3 := r5.frozenAt (i * 4 + 3)
        have HST : Hid (∀ W : World, W = (((w5.setCell ⟨g3, i * 4, none⟩ (.int .i64 k5)).setCell ⟨g3, i * 4 + 1, none⟩ (.int .u64 n5)).setCell ⟨g3, i * 4 + 2, none⟩ (.string s5)).setCell ⟨g3, i * 4 + 3, none⟩ (.slice a5 m5 cap5) → RowI W (w.heap.size + 1) (.slice (some ⟨g3, 0, none⟩) N cap3) ts (i + 1) ks ns ss us ∧ Below (w.heap.size + 1) w1 W) := by
          intro W hW
          have hI := HI.out
          rw [HN.out] at hI ⊢
          refine ⟨hI.step i1 hb5 (q1.widen (fun k hk => by omega)) hW, ?_⟩
          have : Below (w.heap.size + 1) w1 w5 := HW.out.trans (hb5.mono (by omega))
          rw [hW]
          exact (((this.setCell (by simp; omega) _).setCell (by simp; omega) _).setCell (by simp; omega) _).setCell (by simp; omega) _
        unfold cellV
        clear hcall q1 q2 hb5 r5
        go_wp2
        obtain ⟨y1, y2⟩ := HST.out _ rfl
        go_roundw
        case rel => exact ⟨i + 1, by omega, by go_num, y1, y2⟩
        case measure => simp [intOf]; omega
      · have e : i = N := by omega
        subst e
        have hrc4 : Rc wr w.heap.size := (HW.out.block _ (by omega)).trans HRC.out
        have c0 := hrc4.cell 0
        have c1 := hrc4.cell 1
        have c2 := hrc4.cell 2
        have c3 := hrc4.cell 3
        have f0 := hrc4.free 0
        have f1 := hrc4.free 1
        have f2 := hrc4.free 2
        have f3 := hrc4.free 3
        have HE : Hid (∀ W : World, W = (((wr.setCell ⟨w.heap.size, 0, none⟩ (.int .i64 2)).setCell ⟨w.heap.size, 1, none⟩ (.int .u64 (0 : Nat))).setCell ⟨w.heap.size, 2, none⟩ (.string ⟨#[]⟩)).setCell ⟨w.heap.size, 3, none⟩ (.slice (some ⟨g3, 0, none⟩) i cap3) → W.heap[w.heap.size]? = some (.cells #[.int .i64 2, .int .u64 (0 : Nat), .string ⟨#[]⟩, .slice (some ⟨g3, 0, none⟩) i cap3] 26 (0, 0)) ∧ Copd (.mk 2 0 ⟨#[]⟩ (ts.map cpT)) w (.returned (.agg #[.int .i64 2, .int .u64 (0 : Nat), .string ⟨#[]⟩, .slice (some ⟨g3, 0, none⟩) i cap3])) W) := by
          intro W hW
          obtain ⟨y1, y2⟩ := hrc4.set 2 0 ⟨#[]⟩ _ hW
          have hI := HI.out
          refine ⟨y1, _, rfl, ?_, ?_⟩
          · rw [HN.out] at hI ⊢
            have := hI.done.cs (by rw [List.length_map]) 2 0 ⟨#[]⟩ (by decide) (by decide) (by decide)
            exact (this.kept (w' := W) (fun k hk => y2 k (by omega))).widen (fun k hk => by omega)
          · rw [hW]; exact (((hbw.setCell (Nat.le_refl _) _).setCell (Nat.le_refl _) _).setCell (Nat.le_refl _) _).setCell (Nat.le_refl _) _
        clear hrc4 hbw
        go_wp2
        obtain ⟨y1, y2⟩ := HE.out _ rfl
        exact bodyPost_ret (results_cell_row rfl _ _ w.heap.size _ _ _ _ rfl y1 Tryd.underlying26 rfl info25) rfl y2

set_option maxHeartbeats 4000000 in
theorem copied_any : ∀ (D : Nat) (t : Tr) (v : Value) (w : World), t.dep < D → t.cnt ≤ 1000000 → CR w t v → Calls Tryd.prog 59 #[v] w (Copd (cpT t) w) := by
  intro D
  induction D with
  | zero => intro t v w h; omega
  | succ D ih =>
    intro t v w hD hcnt h
    have h2 := h
    cases h using CR.elim with
    | mk k n s ts a cap ks ns ss us hk hn hs hl hc h0 hx hr =>
    have HL : Hid (∀ w' : World, Below w.heap.size w w' → Calls Tryd.prog 42 #[.slice a ts.length cap] w' (Copd (.mk 2 0 ⟨#[]⟩ (ts.map cpT)) w')) := by
      intro w' hb
      exact list_of D ih ts a cap k n s w' (by rw [Tr.dep_mk] at hD; omega) (by rw [Tr.cnt_mk] at hcnt; omega) (h2.kept hb (Nat.le_refl _))
    obtain ⟨w1, hw1⟩ : ∃ w1, w1 = (w.alloc (.cells #[.int .i64 k, .int .u64 n, .string s, .slice a ts.length cap] 26)).alloc (.cells #[.int .i64 0, .int .u64 0, .string ⟨#[]⟩, .slice none 0 0] 26) := ⟨_, rfl⟩
    have hs1 : w1.heap.size = w.heap.size + 2 := by rw [hw1]; simp
    have HRC : Hid (Rc w1 (w.heap.size + 1)) := by
      have e := heap_alloc_new (w.alloc (.cells #[.int .i64 k, .int .u64 n, .string s, .slice a ts.length cap] 26)) (.cells #[.int .i64 0, .int .u64 0, .string ⟨#[]⟩, .slice none 0 0] 26)
      rw [← hw1, show (w.alloc (.cells #[.int .i64 k, .int .u64 n, .string s, .slice a ts.length cap] 26)).heap.size = w.heap.size + 1 by simp] at e
      exact e
    have HB1 : Hid (Below w.heap.size w w1) := by show Below _ _ _; rw [hw1]; exact ((Below.refl _ _).alloc (Nat.le_refl _) _).alloc (by simp) _
    have G : ∀ j, w1.cell? ⟨w.heap.size, j, none⟩ = (#[.int .i64 k, .int .u64 n, .string s, .slice a ts.length cap] : Array Value)[j]? := by
      intro j
      rw [hw1, World.cell?_alloc_lt _ _ _ (by simp), World.cell?_alloc_new]
    have g0 : w1.cell? ⟨w.heap.size, 0, none⟩ = some (.int .i64 k) := G 0
    have g1 : w1.cell? ⟨w.heap.size, 1, none⟩ = some (.int .u64 n) := G 1
    have g2 : w1.cell? ⟨w.heap.size, 2, none⟩ = some (.string s) := G 2
    have g3 : w1.cell? ⟨w.heap.size, 3, none⟩ = some (.slice a ts.length cap) := G 3
    unfold cellV
    clear h2 hx hr ih h0 hD hcnt G
    by_cases k0 : k = 0
    · have HT : Hid (cpT (.mk k n s ts) = .mk 0 n ⟨#[]⟩ []) := by show _ = _; simp [cpT_mk, k0]
      rw [HT.out]
      subst k0
      have hmk := cnumber_any n w1
      go_enter Tryd.func59, Tryd.ntmps59
      go_wp2_with fail
      rw [← hw1]
      refine hmk.mono ?_
      rintro e w4 ⟨rfl, hb4⟩
      clear hmk hw1
      have hbb : Below w.heap.size w w4 := HB1.out.trans (hb4.mono (by omega))
      have hrc4 : Rc w4 (w.heap.size + 1) := (hb4.block _ (by omega)).trans HRC.out
      have c0 := hrc4.cell 0
      have c1 := hrc4.cell 1
      have c2 := hrc4.cell 2
      have c3 := hrc4.cell 3
      have f0 := hrc4.free 0
      have f1 := hrc4.free 1
      have f2 := hrc4.free 2
      have f3 := hrc4.free 3
      have HE : Hid (∀ W : World, W = (((w4.setCell ⟨w.heap.size + 1, 0, none⟩ (.int .i64 0)).setCell ⟨w.heap.size + 1, 1, none⟩ (.int .u64 n)).setCell ⟨w.heap.size + 1, 2, none⟩ (.string ⟨#[]⟩)).setCell ⟨w.heap.size + 1, 3, none⟩ (.slice none 0 0) → W.heap[w.heap.size + 1]? = some (.cells #[.int .i64 0, .int .u64 n, .string ⟨#[]⟩, .slice none 0 0] 26 (0, 0)) ∧ Copd (.mk 0 n ⟨#[]⟩ []) w (.returned (.agg #[.int .i64 0, .int .u64 n, .string ⟨#[]⟩, .slice none 0 0])) W) := by
        intro W hW
        obtain ⟨y1, y2⟩ := hrc4.set _ _ _ _ hW
        refine ⟨y1, _, rfl, ?_, ?_⟩
        · exact CS_flat _ _ 0 n ⟨#[]⟩ (by decide) hn (by decide)
        · rw [hW]; exact (((hbb.setCell (by simp) _).setCell (by simp) _).setCell (by simp) _).setCell (by simp) _
      clear hrc4 hb4 hbb
      unfold cellV
      go_wp2
      obtain ⟨y1, y2⟩ := HE.out _ rfl
      exact bodyPost_ret (results_cell_row rfl _ _ (w.heap.size + 1) _ _ _ _ rfl y1 Tryd.underlying26 rfl info25) rfl y2
    · by_cases k1 : k = 1
      · have HT : Hid (cpT (.mk k n s ts) = .mk 1 0 s []) := by show _ = _; simp [cpT_mk, k1]
        rw [HT.out]
        subst k1
        have hmk := ctext_any s w1
        go_enter Tryd.func59, Tryd.ntmps59
        go_wp2_with fail
        rw [← hw1]
        refine hmk.mono ?_
        rintro e w4 ⟨rfl, hb4⟩
        clear hmk hw1
        have hbb : Below w.heap.size w w4 := HB1.out.trans (hb4.mono (by omega))
        have hrc4 : Rc w4 (w.heap.size + 1) := (hb4.block _ (by omega)).trans HRC.out
        have c0 := hrc4.cell 0
        have c1 := hrc4.cell 1
        have c2 := hrc4.cell 2
        have c3 := hrc4.cell 3
        have f0 := hrc4.free 0
        have f1 := hrc4.free 1
        have f2 := hrc4.free 2
        have f3 := hrc4.free 3
        have HE : Hid (∀ W : World, W = (((w4.setCell ⟨w.heap.size + 1, 0, none⟩ (.int .i64 1)).setCell ⟨w.heap.size + 1, 1, none⟩ (.int .u64 (0 : Nat))).setCell ⟨w.heap.size + 1, 2, none⟩ (.string s)).setCell ⟨w.heap.size + 1, 3, none⟩ (.slice none 0 0) → W.heap[w.heap.size + 1]? = some (.cells #[.int .i64 1, .int .u64 (0 : Nat), .string s, .slice none 0 0] 26 (0, 0)) ∧ Copd (.mk 1 0 s []) w (.returned (.agg #[.int .i64 1, .int .u64 (0 : Nat), .string s, .slice none 0 0])) W) := by
          intro W hW
          obtain ⟨y1, y2⟩ := hrc4.set _ _ _ _ hW
          refine ⟨y1, _, rfl, ?_, ?_⟩
          · exact CS_flat _ _ 1 0 s (by decide) (by decide) hs
          · rw [hW]; exact (((hbb.setCell (by simp) _).setCell (by simp) _).setCell (by simp) _).setCell (by simp) _
        clear hrc4 hb4 hbb
        unfold cellV
        go_wp2
        obtain ⟨y1, y2⟩ := HE.out _ rfl
        exact bodyPost_ret (results_cell_row rfl _ _ (w.heap.size + 1) _ _ _ _ rfl y1 Tryd.underlying26 rfl info25) rfl y2
      · by_cases k2 : k = 2
        · have HT : Hid (cpT (.mk k n s ts) = .mk 2 0 ⟨#[]⟩ (ts.map cpT)) := by show _ = _; simp [cpT_mk, k2, cpL_map]
          rw [HT.out]
          subst k2
          have hmk := HL.out w1 HB1.out
          go_enter Tryd.func59, Tryd.ntmps59
          go_wp2_with fail
          rw [← hw1]
          refine hmk.mono ?_
          rintro e w4 ⟨v4, rfl, q1, hb4⟩
          obtain ⟨k5, n5, s5, a5, m5, cap5, rfl⟩ := q1.form
          clear hmk hw1
          have hbb : Below w.heap.size w w4 := HB1.out.trans (hb4.mono (by omega))
          have hrc4 : Rc w4 (w.heap.size + 1) := (hb4.block _ (by omega)).trans HRC.out
          have c0 := hrc4.cell 0
          have c1 := hrc4.cell 1
          have c2 := hrc4.cell 2
          have c3 := hrc4.cell 3
          have f0 := hrc4.free 0
          have f1 := hrc4.free 1
          have f2 := hrc4.free 2
          have f3 := hrc4.free 3
          have HE : Hid (∀ W : World, W = (((w4.setCell ⟨w.heap.size + 1, 0, none⟩ (.int .i64 k5)).setCell ⟨w.heap.size + 1, 1, none⟩ (.int .u64 n5)).setCell ⟨w.heap.size + 1, 2, none⟩ (.string s5)).setCell ⟨w.heap.size + 1, 3, none⟩ (.slice a5 m5 cap5) → W.heap[w.heap.size + 1]? = some (.cells #[.int .i64 k5, .int .u64 n5, .string s5, .slice a5 m5 cap5] 26 (0, 0)) ∧ Copd (.mk 2 0 ⟨#[]⟩ (ts.map cpT)) w (.returned (.agg #[.int .i64 k5, .int .u64 n5, .string s5, .slice a5 m5 cap5])) W) := by
            intro W hW
            obtain ⟨y1, y2⟩ := hrc4.set _ _ _ _ hW
            refine ⟨y1, _, rfl, ?_, ?_⟩
            · exact (q1.kept (w' := W) (fun k hk => y2 k (by omega))).widen (fun k hk => by omega)
            · rw [hW]; exact (((hbb.setCell (by simp) _).setCell (by simp) _).setCell (by simp) _).setCell (by simp) _
          clear hrc4 hb4 hbb q1
          unfold cellV
          go_wp2
          obtain ⟨y1, y2⟩ := HE.out _ rfl
          exact bodyPost_ret (results_cell_row rfl _ _ (w.heap.size + 1) _ _ _ _ rfl y1 Tryd.underlying26 rfl info25) rfl y2
        · have HT : Hid (cpT (.mk k n s ts) = .mk k 0 ⟨#[]⟩ []) := by show _ = _; simp [cpT_mk, k0, k1, k2]
          rw [HT.out]
          clear hw1 HRC HB1 g0 g1 g2 g3 HL hs1
          go_enter Tryd.func59, Tryd.ntmps59
          go_wp2
          have e := heap_alloc_new (w.alloc (.cells #[.int .i64 k, .int .u64 n, .string s, .slice a ts.length cap] 26)) (.cells #[.int .i64 k, .int .u64 0, .string ⟨#[]⟩, .slice none 0 0] 26)
          rw [show (w.alloc (.cells #[.int .i64 k, .int .u64 n, .string s, .slice a ts.length cap] 26)).heap.size = w.heap.size + 1 by simp] at e
          exact bodyPost_ret (results_cell_row rfl _ _ (w.heap.size + 1) _ _ _ _ rfl e Tryd.underlying26 rfl info25) rfl ⟨_, rfl, CS_flat _ _ k 0 ⟨#[]⟩ hk (by decide) (by decide), ((Below.refl _ _).alloc (Nat.le_refl _) _).alloc (by simp) _⟩

/-- List of a row that reads as trees. -/
theorem list_any (ts : List Tr) (a : Option Addr) (cap : Nat) (k0 : Int) (n0 : Nat) (s0 : ByteArray) (w : World) (hcnt : cnts ts ≤ 1000000) (h : CR w (.mk k0 n0 s0 ts) (cellV k0 n0 s0 (.slice a ts.length cap))) :
    Calls Tryd.prog 42 #[.slice a ts.length cap] w (Copd (.mk 2 0 ⟨#[]⟩ (ts.map cpT)) w) :=
  list_of (deps ts) (copied_any (deps ts)) ts a cap k0 n0 s0 w (Nat.le_refl _) hcnt h

end Go.Proofs.YtjngknnkffbnmaaDoor
