/-
  Layer 7: the landed reader's cells, walked.
-/
import Derived.Test.YtjngknnkffbnmaaDoorGC1
import Derived.Lib.Strings
import Derived.Deep.Light
namespace Go.Proofs.YtjngknnkffbnmaaDoor
set_option maxRecDepth 100000
open Go.RowKit Crc

def foldE : (ts : List Tr) → (∀ t, t ∈ ts → List Nat → Nat ⊕ List Nat) → List Nat → Nat ⊕ List Nat
  | [], _, l => .inr l
  | t :: ts, f, l => match f t List.mem_cons_self l with
    | .inl x => .inl x
    | .inr m => foldE ts (fun t h => f t (List.mem_cons_of_mem _ h)) m
/-- The bytes of a tree behind others, or why there are none (1 ErrArg, 2 ErrLong); D: how many lists it may still lie in. -/
def encT : Tr → Nat → List Nat → Nat ⊕ List Nat
  | .mk k n s ts, D, l =>
    if k = 0 then (if l.length + 9 ≤ 1048576 then .inr (l ++ ([0] ++ be n 8)) else .inl 2)
    else if k = 1 then (if l.length + 5 + s.size ≤ 1048576 then .inr (l ++ ([1] ++ be s.size 4 ++ tx s)) else .inl 2)
    else if k = 2 then (match D with
      | 0 => .inl 2
      | D + 1 => if l.length + 5 ≤ 1048576 then foldE ts (fun t _ l => encT t D l) (l ++ ([2] ++ be ts.length 4)) else .inl 2)
    else .inl 1
def encL (ts : List Tr) (D : Nat) (l : List Nat) : Nat ⊕ List Nat := foldE ts (fun t _ l => encT t D l) l
theorem encT_mk (k : Int) (n : Nat) (s : ByteArray) (ts : List Tr) (D : Nat) (l : List Nat) : encT (.mk k n s ts) D l =
    if k = 0 then (if l.length + 9 ≤ 1048576 then .inr (l ++ ([0] ++ be n 8)) else .inl 2)
    else if k = 1 then (if l.length + 5 + s.size ≤ 1048576 then .inr (l ++ ([1] ++ be s.size 4 ++ tx s)) else .inl 2)
    else if k = 2 then (match D with
      | 0 => .inl 2
      | D + 1 => if l.length + 5 ≤ 1048576 then encL ts D (l ++ ([2] ++ be ts.length 4)) else .inl 2)
    else .inl 1 := by
  rw [encT.eq_def]
  cases D <;> rfl
theorem encL_nil (D : Nat) (l : List Nat) : encL [] D l = .inr l := rfl
theorem encL_cons (t : Tr) (ts : List Tr) (D : Nat) (l : List Nat) : encL (t :: ts) D l = match encT t D l with
    | .inl x => .inl x
    | .inr m => encL ts D m := rfl

theorem encL_append : ∀ (ts us : List Tr) (D : Nat) (l : List Nat), encL (ts ++ us) D l = match encL ts D l with | .inl x => .inl x | .inr m => encL us D m
  | [], us, D, l => by simp [encL_nil]
  | t :: ts, us, D, l => by
    simp only [List.cons_append, encL_cons]
    cases encT t D l with
    | inl x => rfl
    | inr m => exact encL_append ts us D m

theorem encL_take (ts : List Tr) (i : Nat) (h : i < ts.length) (D : Nat) (l m : List Nat) (hm : encL (ts.take i) D l = .inr m) : encL (ts.take (i + 1)) D l = encT ts[i] D m := by
  rw [List.take_succ_eq_append_getElem h, encL_append, hm]
  simp only [encL_cons, encL_nil]
  cases encT ts[i] D m <;> rfl

theorem encL_stop (ts : List Tr) (i : Nat) (D : Nat) (l : List Nat) (x : Nat) (hm : encL (ts.take i) D l = .inl x) : encL ts D l = .inl x := by
  conv => lhs; rw [← List.take_append_drop i ts]
  rw [encL_append, hm]

end Go.Proofs.YtjngknnkffbnmaaDoor
namespace Go.Proofs.YtjngknnkffbnmaaDoor
set_option maxRecDepth 100000
open Go.RowKit Crc

/-- Bytes as a string. -/
def bsN (l : List Nat) : ByteArray := strOfNums (l.map Int.ofNat)
theorem bsN_size (l : List Nat) : (bsN l).size = l.length := by unfold bsN; rw [strOfNums_size, List.length_map]
theorem tx_bsN {l : List Nat} (hl : Sm8 l) : tx (bsN l) = l := by
  unfold tx bsN
  rw [strOfNums_data, List.map_map, List.map_map]
  conv => rhs; rw [← List.map_id l]
  apply List.map_congr_left
  intro d hd
  have := hl d hd
  simp [Function.comp]
  omega
theorem tx_inj {s t : ByteArray} (h : tx s = tx t) : s = t := by
  unfold tx at h
  have e : s.data.toList = t.data.toList := by
    have := congrArg (List.map UInt8.ofNat) h
    rw [List.map_map, List.map_map] at this
    have f : (UInt8.ofNat ∘ UInt8.toNat) = id := by funext b; simp
    rw [f, List.map_id, List.map_id] at this
    exact this
  exact Go.WideShapes.bytes_inj e
theorem bsN_tx (s : ByteArray) : bsN (tx s) = s := tx_inj (tx_bsN (tx_sm s))
theorem bsN_inj {l m : List Nat} (hl : Sm8 l) (hm : Sm8 m) (h : bsN l = bsN m) : l = m := by rw [← tx_bsN hl, h, tx_bsN hm]
theorem bsN_eq {l m : List Nat} (hl : Sm8 l) (hm : Sm8 m) : ((bsN l).toList == (bsN m).toList) = decide (l = m) := by
  by_cases c : l = m
  · subst c; simp
  · rw [decide_eq_false c, beq_eq_false_iff_ne]
    intro e
    rw [ByteArray.toList_eq, ByteArray.toList_eq] at e
    exact c (bsN_inj hl hm (Go.WideShapes.bytes_inj e))
theorem conv_any {w : World} {v : Value} {l : List Nat} (h : BR w v l) : (convert 31 9 v).run Tryd.prog w = .ok (.string (bsN l)) w := by
  obtain ⟨s1, a, cap, rfl, h3, h4, h5⟩ := id h
  by_cases c : l.length = 0
  · have e : l = [] := List.eq_nil_of_length_eq_zero c
    subst e
    rcases h5 with ⟨rfl, rfl⟩ | ⟨x, rfl, _⟩
    · exact run_convert_bytes_nil w _ _ Tryd.underlying31 Tryd.underlying5 _ _ _ Tryd.underlying9
    · have := run_loadCells_list (P := Tryd.prog) w x [] (fun j u hj => by simp at hj)
      rw [run_convert_bytes_string w _ _ _ _ _ _ Tryd.underlying31 Tryd.underlying5 Tryd.underlying9, run_bytesToString w x _ cap [] (by simpa using this)]
      rfl
  · obtain ⟨b, o, rfl, _, hc⟩ := h.lies (by omega)
    refine run_convert_bytes_arg w _ _ Tryd.underlying31 Tryd.underlying5 b o l.length cap (l.map Int.ofNat) (by rw [List.length_map]) ?_ _ Tryd.underlying9
    intro i hi
    rw [hc i hi]
    congr 2
    rw [List.getD_eq_getElem?_getD, List.getD_eq_getElem?_getD, List.getElem?_map, List.getElem?_eq_getElem hi]
    rfl

/-- One cell read, or why none: 2 ErrLong, 3 ErrShort, 4 ErrForm; and what is left. -/
def decL (f : List Nat → Nat ⊕ (Tr × List Nat)) : Nat → List Nat → Nat ⊕ (List Tr × List Nat)
  | 0, l => .inr ([], l)
  | n + 1, l => match f l with
    | .inl x => .inl x
    | .inr (t, l2) => match decL f n l2 with
      | .inl x => .inl x
      | .inr (ts, l3) => .inr (t :: ts, l3)

def decT : Nat → List Nat → Nat ⊕ (Tr × List Nat)
  | _, [] => .inl 3
  | D, k :: l =>
    if k = 0 then (if l.length < 8 then .inl 3 else .inr (.mk 0 (nb (l.take 8)) ⟨#[]⟩ [], l.drop 8))
    else if k = 1 then (if l.length < 4 then .inl 3 else if l.length - 4 < nb (l.take 4) then .inl 3 else .inr (.mk 1 0 (bsN ((l.drop 4).take (nb (l.take 4)))) [], (l.drop 4).drop (nb (l.take 4))))
    else if k = 2 then (match D with
      | 0 => .inl 2
      | D + 1 => if l.length < 4 then .inl 3 else if l.length - 4 < nb (l.take 4) then .inl 3 else match decL (decT D) (nb (l.take 4)) (l.drop 4) with
        | .inl x => .inl x
        | .inr (ts, l2) => .inr (.mk 2 0 ⟨#[]⟩ ts, l2))
    else .inl 4

theorem decL_succ (f : List Nat → Nat ⊕ (Tr × List Nat)) (n : Nat) (l : List Nat) : decL f (n + 1) l = match f l with
    | .inl x => .inl x
    | .inr (t, l2) => match decL f n l2 with
      | .inl x => .inl x
      | .inr (ts, l3) => .inr (t :: ts, l3) := rfl

theorem decL_snoc (f : List Nat → Nat ⊕ (Tr × List Nat)) : ∀ (n : Nat) (l : List Nat), decL f (n + 1) l = match decL f n l with
    | .inl x => .inl x
    | .inr (ts, l2) => match f l2 with
      | .inl x => .inl x
      | .inr (t, l3) => .inr (ts ++ [t], l3)
  | 0, l => by
    simp only [decL]
    cases f l with
    | inl x => rfl
    | inr p => rfl
  | n + 1, l => by
    rw [decL_succ f (n + 1) l, decL_succ f n l]
    cases h : f l with
    | inl x => rfl
    | inr p =>
      obtain ⟨t, l2⟩ := p
      simp only
      rw [decL_snoc f n l2]
      cases decL f n l2 with
      | inl x => rfl
      | inr q =>
        obtain ⟨ts, l3⟩ := q
        simp only
        cases f l3 with
        | inl x => rfl
        | inr q => rfl

theorem decL_stop (f : List Nat → Nat ⊕ (Tr × List Nat)) (l : List Nat) (x i : Nat) (h : decL f i l = .inl x) : ∀ n, i ≤ n → decL f n l = .inl x := by
  intro n hn
  obtain ⟨d, rfl⟩ : ∃ d, n = i + d := ⟨n - i, by omega⟩
  clear hn
  induction d with
  | zero => exact h
  | succ d ih => rw [← Nat.add_assoc, decL_snoc, ih]

theorem decL_length (f : List Nat → Nat ⊕ (Tr × List Nat)) : ∀ (n : Nat) (l : List Nat) (ts : List Tr) (l2 : List Nat), decL f n l = .inr (ts, l2) → ts.length = n
  | 0, l, ts, l2, h => by simp [decL] at h; rw [h.1]; rfl
  | n + 1, l, ts, l2, h => by
    simp only [decL] at h
    cases h1 : f l with
    | inl x => rw [h1] at h; simp at h
    | inr p =>
      obtain ⟨t, l3⟩ := p
      rw [h1] at h
      simp only at h
      cases h2 : decL f n l3 with
      | inl x => rw [h2] at h; simp at h
      | inr q =>
        obtain ⟨us, l4⟩ := q
        rw [h2] at h
        simp only [Sum.inr.injEq, Prod.mk.injEq] at h
        rw [← h.1, List.length_cons, decL_length f n l3 us l4 h2]

end Go.Proofs.YtjngknnkffbnmaaDoor
namespace Go.Proofs.YtjngknnkffbnmaaDoor
set_option maxRecDepth 100000
open Go.RowKit Crc

/-- Nothing was turned but the reader's block. -/
structure KR (b : Nat) (w w' : World) : Prop where
  os : w'.os = w.os
  tape : w'.tape = w.tape
  output : w'.output = w.output
  size : w.heap.size ≤ w'.heap.size
  block : ∀ k, k < w.heap.size → k ≠ b → w'.heap[k]? = w.heap[k]?

theorem KR.refl (b : Nat) (w : World) : KR b w w := ⟨rfl, rfl, rfl, Nat.le_refl _, fun _ _ _ => rfl⟩
theorem KR.trans {b : Nat} {w w' w'' : World} (h : KR b w w') (k : KR b w' w'') : KR b w w'' :=
  ⟨k.os.trans h.os, k.tape.trans h.tape, k.output.trans h.output, Nat.le_trans h.size k.size, fun i hi hb => (k.block i (Nat.lt_of_lt_of_le hi h.size) hb).trans (h.block i hi hb)⟩
theorem KR.of {b : Nat} {w w' : World} (h : Below w.heap.size w w') : KR b w w' := ⟨h.os, h.tape, h.output, h.size, fun k hk _ => h.block k hk⟩
theorem KR.set (b j : Nat) (u : Value) (w : World) : KR b w (w.setCell ⟨b, j, none⟩ u) :=
  ⟨rfl, rfl, rfl, by rw [World.size_setCell]; exact Nat.le_refl _, fun k _ hb => heap_setCell_other _ _ _ _ hb⟩
theorem KR.alloc (b : Nat) (o : Obj) (w : World) : KR b w (w.alloc o) := KR.of ((Below.refl _ w).alloc (Nat.le_refl _) o)
/-- A store into a block that was made since. -/
theorem KR.setNew {b B j : Nat} {w w' : World} (h : KR b w w') (hB : w.heap.size ≤ B) (u : Value) : KR b w (w'.setCell ⟨B, j, none⟩ u) :=
  ⟨h.os, h.tape, h.output, by rw [World.size_setCell]; exact h.size, fun k hk hb => by rw [heap_setCell_other _ _ _ _ (by simp; omega)]; exact h.block k hk hb⟩

theorem RD.below {w w' : World} {b H : Nat} {v : Value} {l : List Nat} (h : RD w b H v l) (hg : Below w.heap.size w w') : RD w' b H v l := by
  have hlt := h.lt
  have hs := hg.size
  exact ⟨(hg.cell (p := ⟨b, 0, none⟩) hlt).trans h.c, fun i => (hg.frozen (p := ⟨b, i, none⟩) hlt).trans (h.fz i), h.br.below hg (Nat.le_refl _), h.ne, h.hi, by omega⟩
theorem RD.alloc {w : World} {b H : Nat} {v : Value} {l : List Nat} (h : RD w b H v l) (o : Obj) : RD (w.alloc o) b H v l := h.below ((Below.refl _ w).alloc (Nat.le_refl _) o)
/-- A store into a block that is neither the reader's nor holds its bytes. -/
theorem RD.setNew {w : World} {b H B j : Nat} {v : Value} {l : List Nat} (h : RD w b H v l) (hb : B ≠ b) (hv : H ≤ B) (u : Value) : RD (w.setCell ⟨B, j, none⟩ u) b H v l := by
  have e := heap_setCell_other w ⟨B, j, none⟩ b u (fun e => hb e.symm)
  refine ⟨(World.cell?_of_block (w := w) (a := ⟨b, 0, none⟩) e).trans h.c, fun i => (World.frozen?_of_block (w := w) (a := ⟨b, i, none⟩) e).trans (h.fz i), ?_, h.ne, h.hi, by rw [World.size_setCell]; exact h.lt⟩
  obtain ⟨h1, a, cap, h2, h3, h4, h5⟩ := h.br
  refine ⟨h1, a, cap, h2, h3, h4, ?_⟩
  rcases h5 with c | ⟨x, e2, hc⟩
  · exact Or.inl c
  · refine Or.inr ⟨x, e2, fun i hi => ?_⟩
    have := h.hi x _ _ (by rw [h2, e2])
    rw [← hc i hi]
    exact World.cell?_of_block (w := w) (a := x.add i) (heap_setCell_other w ⟨B, j, none⟩ (x.add i).block u (by rw [add_block]; simp; omega))

/-- What the reader does with a cell. -/
def Readd (r : Nat ⊕ (Tr × List Nat)) (b H : Nat) (w : World) (e : Ending) (w' : World) : Prop :=
  match r with
  | .inl x => e = gaveUp x ∧ KR b w w'
  | .inr p => ∃ cv v2, e = .returned cv ∧ CS w' (fun k => w.heap.size ≤ k) p.1 cv ∧ RD w' b H v2 p.2 ∧ KR b w w' ∧ p.2.length ≤ 1048576

end Go.Proofs.YtjngknnkffbnmaaDoor
namespace Go.Proofs.YtjngknnkffbnmaaDoor
set_option maxRecDepth 100000
open Go.RowKit Crc

/-- What the writer does with a cell. -/
def Wrote (r : Nat ⊕ List Nat) (b B : Nat) (v : Value) (w : World) (e : Ending) (w' : World) : Prop :=
  match r with
  | .inl x => e = gaveUp x ∧ Below B w w'
  | .inr m => e = .returned (.tuple #[]) ∧ ∃ v', WR w' b B v' m ∧ Kept b v v' w w' ∧ m.length ≤ 1048576

theorem WR.own_lt {w : World} {b B : Nat} {v : Value} {l : List Nat} (h : WR w b B v l) : v.ownBlock ≠ some w.heap.size := fun e => by have := (h.ow.2.lt _ e).2; omega

theorem WR.base {w : World} {b B : Nat} {v : Value} {l : List Nat} (h : WR w b B v l) : B ≤ w.heap.size := by have := h.lo; have := h.lt; omega

set_option maxHeartbeats 1000000 in
theorem wcell_number (b B : Nat) (n : Nat) (s : ByteArray) (u wv : Value) (d : Int) (l : List Nat) (w : World) (h : WR w b B wv l) (hl : l.length ≤ 1048576) (r : Nat ⊕ List Nat) (hr : r = if l.length + 9 ≤ 1048576 then .inr (l ++ ([0] ++ be n 8)) else .inl 2) :
    Calls Tryd.prog 49 #[.pointer (some ⟨b, 0, none⟩), .agg #[.int .i64 0, .int .u64 n, .string s, u], .int .i64 d] w (Wrote r b B wv w) := by
  have hw1 := h.alloc (.cells #[.int .i64 0, .int .u64 n, .string s, u] 26)
  have hown := h.own_lt
  have hlt := h.lt
  have HB0 : Hid (Below B w (w.alloc (.cells #[.int .i64 0, .int .u64 n, .string s, u] 26))) := (Below.refl _ _).alloc h.base _
  by_cases c1 : l.length = 1048576
  · have HP : Hid (∀ w', Below B w w' → Wrote r b B wv w (gaveUp 2) w') := by
      intro w' hb
      rw [hr, if_neg (by omega)]
      exact ⟨rfl, hb⟩
    have hlay := lay_long b B 0 wv l _ hw1 c1
    clear h hw1 hr
    go_enter Tryd.func49, Tryd.ntmps49
    go_wp2_with fail
    refine hlay.mono ?_
    rintro e w2 ⟨rfl, rfl⟩
    have HQ : Hid _ := HP.out _ HB0.out
    clear hlay HP
    unfold gaveUp
    go_wp2
    exact ⟨rfl, HQ.out⟩
  · have hlay := lay_ok b B 0 wv l _ hw1 (by omega) (by decide)
    have HI : Hid (∀ v2 w2, WR w2 b B v2 (l ++ [0]) → Kept b wv v2 (w.alloc (.cells #[.int .i64 0, .int .u64 n, .string s, u] 26)) w2 → w2.cell? ⟨w.heap.size, 1, none⟩ = some (.int .u64 n)) := by
      intro v2 w2 k1 k2
      rw [k2.cell (by simp) (by omega) hown 1]
      simp
    by_cases c2 : l.length + 9 ≤ 1048576
    · have HN : Hid (∀ v2 w2, WR w2 b B v2 (l ++ [0]) → _) := fun v2 w2 k1 => number_ok b B n 8 v2 (l ++ [0]) w2 k1 (by rw [List.length_append]; simp; omega) (by decide)
      have HP : Hid (∀ w' v', WR w' b B v' (l ++ [0] ++ be n 8) → Kept b wv v' w w' → Wrote r b B wv w (.returned (.tuple #[])) w') := by
        intro w' v' k1 k2
        rw [hr, if_pos c2]
        exact ⟨rfl, v', by rw [← List.append_assoc]; exact k1, k2, by simp [be_length]; omega⟩
      clear h hw1 hr
      go_enter Tryd.func49, Tryd.ntmps49
      go_wp2_with fail
      refine hlay.mono ?_
      rintro e w2 ⟨rfl, v2, k1, k2⟩
      have hc := HI.out v2 w2 k1 k2
      have hnum := HN.out v2 w2 k1
      have HK : Hid _ := k2
      clear hlay k1 k2
      go_wp2_with fail
      refine hnum.mono ?_
      rintro e w3 ⟨rfl, v3, k1, k2⟩
      have HQ : Hid (Wrote r b B wv w (.returned (.tuple #[])) w3) := HP.out w3 v3 k1 (HK.out.trans k2).alloc
      clear hnum k1 k2 HP HK
      go_wp2
      go_end0
      exact HQ.out
    · have HN : Hid (∀ v2 w2, WR w2 b B v2 (l ++ [0]) → _) := fun v2 w2 k1 => number_long b B n 8 v2 (l ++ [0]) w2 k1 (by rw [List.length_append]; simp; omega) (by rw [List.length_append]; simp; omega) (by decide)
      have HP : Hid (∀ w', Below B w w' → Wrote r b B wv w (gaveUp 2) w') := by
        intro w' hb
        rw [hr, if_neg c2]
        exact ⟨rfl, hb⟩
      have HW1 : Hid _ := hw1
      clear h hw1 hr
      go_enter Tryd.func49, Tryd.ntmps49
      go_wp2_with fail
      refine hlay.mono ?_
      rintro e w2 ⟨rfl, v2, k1, k2⟩
      have hc := HI.out v2 w2 k1 k2
      have hnum := HN.out v2 w2 k1
      have HK : Hid _ := HB0.out.trans (k2.below HW1.out)
      clear hlay k1 k2
      go_wp2_with fail
      refine hnum.mono ?_
      rintro e w3 ⟨rfl, k1⟩
      have HQ : Hid _ := HP.out _ (HK.out.trans k1)
      clear hnum HP
      unfold gaveUp
      go_wp2
      exact ⟨rfl, HQ.out⟩

theorem WR.drew {w : World} {b B : Nat} {v : Value} {l : List Nat} (h : WR w b B v l) : WR w.drew b B v l := ⟨h.c, h.fz, h.ow, h.lo, h.lt, h.ne⟩
theorem Kept.undrew {b : Nat} {v v' : Value} {w w' : World} (h : Kept b v v' w.drew w') : Kept b v v' w w' := ⟨h.os, h.tape, h.output, h.size, h.block, h.own⟩
theorem ownsRow_slice {w : World} {B e s n : Nat} {v : Value} {xs : List Value} (h : w.ownsRow B e s v n xs) : ∃ a cap, v = .slice a n cap := by
  rcases h.2 with ⟨e, e2⟩ | ⟨g, cap, cur, e, _⟩
  · exact ⟨none, 0, by rw [e2]; exact e⟩
  · exact ⟨_, cap, e⟩

set_option maxHeartbeats 2000000 in
theorem wcell_text (b B : Nat) (n : Nat) (s : ByteArray) (u wv : Value) (d : Int) (l : List Nat) (w : World) (h : WR w b B wv l) (hl : l.length ≤ 1048576) (hs : s.size ≤ 9223372036854775807) (r : Nat ⊕ List Nat) (hr : r = if l.length + 5 + s.size ≤ 1048576 then .inr (l ++ ([1] ++ be s.size 4 ++ tx s)) else .inl 2) :
    Calls Tryd.prog 49 #[.pointer (some ⟨b, 0, none⟩), .agg #[.int .i64 1, .int .u64 n, .string s, u], .int .i64 d] w (Wrote r b B wv w) := by
  have hw1 := h.alloc (.cells #[.int .i64 1, .int .u64 n, .string s, u] 26)
  have hown := h.own_lt
  have hlt := h.lt
  obtain ⟨i0, hi, hz0, hz1, hz2⟩ := info_parts info8
  have hsm : (s.size : Int) % 18446744073709551616 = (s.size : Int) := by omega
  have HB0 : Hid (Below B w (w.alloc (.cells #[.int .i64 1, .int .u64 n, .string s, u] 26))) := (Below.refl _ _).alloc h.base _
  have HI : Hid (∀ v2 w2, Kept b wv v2 (w.alloc (.cells #[.int .i64 1, .int .u64 n, .string s, u] 26)) w2 → w2.cell? ⟨w.heap.size, 2, none⟩ = some (.string s)) := by
    intro v2 w2 k2
    rw [k2.cell (by simp) (by omega) hown 2]
    simp
  have HR : Hid (r = if l.length + 5 + s.size ≤ 1048576 then .inr (l ++ ([1] ++ be s.size 4 ++ tx s)) else .inl 2) := hr
  have HG : Hid (1048576 < l.length + 5 + s.size → ∀ w', Below B w w' → Wrote r b B wv w (gaveUp 2) w') := by
    intro c w' hb
    rw [hr, if_neg (by omega)]
    exact ⟨rfl, hb⟩
  have HW1 : Hid _ := hw1
  by_cases c1 : l.length = 1048576
  · have hlay := lay_long b B 1 wv l _ hw1 c1
    clear h hw1 hr
    go_enter Tryd.func49, Tryd.ntmps49
    go_wp2_with fail
    refine hlay.mono ?_
    rintro e w2 ⟨rfl, rfl⟩
    have HQ : Hid (Wrote r b B wv w (gaveUp 2) _) := HG.out (by omega) _ HB0.out
    clear hlay
    unfold gaveUp
    go_wp2
    exact ⟨rfl, HQ.out⟩
  · have hlay := lay_ok b B 1 wv l _ hw1 (by omega) (by decide)
    by_cases c2 : l.length + 5 ≤ 1048576
    · have HN : Hid (∀ v2 w2, WR w2 b B v2 (l ++ [1]) → _) := fun v2 w2 k1 => number_ok b B s.size 4 v2 (l ++ [1]) w2 k1 (by rw [List.length_append]; simp; omega) (by decide)
      clear h hw1 hr
      go_enter Tryd.func49, Tryd.ntmps49
      go_wp2_with fail
      refine hlay.mono ?_
      rintro e w2 ⟨rfl, v2, k1, k2⟩
      have hc := HI.out v2 w2 k2
      have hnum := HN.out v2 w2 k1
      have HK : Hid (Kept b wv v2 _ w2) := k2
      clear hlay k1 k2
      go_wp2_with fail
      refine hnum.mono ?_
      rintro e w3 ⟨rfl, v3, k1, k2⟩
      have HK3 : Hid (Kept b wv v3 _ w3) := HK.out.trans k2
      have hc3 := HI.out v3 w3 HK3.out
      have HW3 : Hid (WR w3 b B v3 (l ++ [1] ++ be s.size 4)) := k1
      have hlen : (l ++ [1] ++ be s.size 4).length = l.length + 5 := by simp [be_length]
      clear hnum k1 k2 hc HK
      by_cases c3 : l.length + 5 + s.size ≤ 1048576
      · have hroom := room_ok b B s.size v3 _ w3 HW3.out (by omega)
        go_wp2_with fail
        refine hroom.mono ?_
        rintro e w4 ⟨rfl, rfl⟩
        have hcb := HW3.out.c
        have hbase : B ≤ w4.heap.size := HW3.out.base
        have ho := HW3.out.ow.2
        obtain ⟨a3, cap3, rfl⟩ := ownsRow_slice ho
        clear hroom
        have HP : Hid (∀ (v' : Value) (w5 : World), w5.ownsRow B 5 1 v' ((l ++ [1] ++ be s.size 4).length + s.size) (c8 (l ++ [1] ++ be s.size 4) ++ Lib.strCells s) → w4.drew.grownBy w5 (Value.slice a3 (l ++ [1] ++ be s.size 4).length cap3).ownBlock → (∀ k, v'.ownBlock = some k → (Value.slice a3 (l ++ [1] ++ be s.size 4).length cap3).ownBlock = some k ∨ k = w4.drew.heap.size) →
            w5.cell? ⟨b, 0, none⟩ = some (.slice a3 (l ++ [1] ++ be s.size 4).length cap3) ∧ w5.frozen? ⟨b, 0, none⟩ = false ∧ Wrote r b B wv w (.returned (.tuple #[])) (w5.setCell ⟨b, 0, none⟩ v')) := by
          intro v' w5 q1 q2 q3
          obtain ⟨y1, y2, y3, y4⟩ := HW3.out.drew.more (tx_sm s) (by rw [tx_length, ← tx_cells]; exact q1) q2 q3
          refine ⟨y1, y2, ?_⟩
          rw [HR.out, if_pos c3]
          refine ⟨rfl, v', ?_, (HK3.out.trans y4.undrew).alloc, ?_⟩
          · simpa [List.append_assoc] using y3
          · simp [be_length, tx_length]; omega
        generalize (l ++ [1] ++ be s.size 4) = L at *
        have hL1 : L.length + s.size ≤ maxLen := by unfold maxLen; omega
        have hL2 : L.length + s.size ≤ 140737488355328 := by omega
        clear hlen
        have hoD : w4.drew.ownsRow B 5 1 (.slice a3 L.length cap3) L.length (c8 L) := ho
        go_wp2_with fail
        go_region_law (refine step_append_text rfl (.tmp 38) (.tmp 40) 31 9 rfl B 5 i0 Tryd.underlying31 Tryd.underlying9 hi hz0 hz1 hz2 (.slice a3 L.length cap3) L.length (c8 L) (by simp [Act.eval]) hoD s (by simp [Act.eval]) hL1 hL2 hbase ?_; intro v' w5 q1 q2 q3; obtain ⟨y1, y2, y3⟩ := HP.out v' w5 q1 q2 q3; obtain ⟨a5, cap5, rfl⟩ := ownsRow_slice q1; have HQ : Hid (Wrote r b B wv w (.returned (.tuple #[])) (w5.setCell ⟨b, 0, none⟩ (.slice a5 (L.length + s.size) cap5))) := y3; clear q1 q2 q3 y3)
        all_goals go_wp2
        all_goals go_end0
        all_goals exact HQ.out
      · have hroom := room_long b B s.size v3 _ w3 HW3.out (by omega) (by omega)
        have HQ : Hid (Wrote r b B wv w (gaveUp 2) w3) := HG.out (by omega) _ (HB0.out.trans (HK3.out.below HW1.out))
        go_wp2_with fail
        refine hroom.mono ?_
        rintro e w4 ⟨rfl, rfl⟩
        clear hroom
        unfold gaveUp
        go_wp2
        exact ⟨rfl, HQ.out⟩
    · have HN : Hid (∀ v2 w2, WR w2 b B v2 (l ++ [1]) → _) := fun v2 w2 k1 => number_long b B s.size 4 v2 (l ++ [1]) w2 k1 (by rw [List.length_append]; simp; omega) (by rw [List.length_append]; simp; omega) (by decide)
      clear h hw1 hr
      go_enter Tryd.func49, Tryd.ntmps49
      go_wp2_with fail
      refine hlay.mono ?_
      rintro e w2 ⟨rfl, v2, k1, k2⟩
      have hc := HI.out v2 w2 k2
      have hnum := HN.out v2 w2 k1
      have HK : Hid (Below B w w2) := HB0.out.trans (k2.below HW1.out)
      clear hlay k1 k2
      go_wp2_with fail
      refine hnum.mono ?_
      rintro e w3 ⟨rfl, k1⟩
      have HQ : Hid (Wrote r b B wv w (gaveUp 2) w3) := HG.out (by omega) _ (HK.out.trans k1)
      clear hnum
      unfold gaveUp
      go_wp2
      exact ⟨rfl, HQ.out⟩

set_option maxHeartbeats 400000 in
theorem wcell_bad (b B : Nat) (k : Int) (n : Nat) (s : ByteArray) (u wv : Value) (d : Int) (l : List Nat) (w : World) (h : WR w b B wv l) (k0 : ¬ k = 0) (k1 : ¬ k = 1) (k2 : ¬ k = 2) :
    Calls Tryd.prog 49 #[.pointer (some ⟨b, 0, none⟩), .agg #[.int .i64 k, .int .u64 n, .string s, u], .int .i64 d] w (Wrote (.inl 1) b B wv w) := by
  have HB0 : Hid (Below B w (w.alloc (.cells #[.int .i64 k, .int .u64 n, .string s, u] 26))) := (Below.refl _ _).alloc h.base _
  clear h
  go_enter Tryd.func49, Tryd.ntmps49
  go_wp2
  exact ⟨rfl, rfl, HB0.out⟩

end Go.Proofs.YtjngknnkffbnmaaDoor
namespace Go.Proofs.YtjngknnkffbnmaaDoor
set_option maxRecDepth 100000
open Go.RowKit Crc

/-- What the reader does with so many cells. -/
def ReadL (r : Nat ⊕ (List Tr × List Nat)) (b H : Nat) (w : World) (e : Ending) (w' : World) : Prop :=
  match r with
  | .inl x => e = gaveUp x ∧ KR b w w'
  | .inr p => ∃ lv v2, e = .returned lv ∧ TW w' w.heap.size lv p.1 ∧ RD w' b H v2 p.2 ∧ KR b w w' ∧ p.2.length ≤ 1048576

theorem TW_nil (w : World) (B : Nat) : TW w B (.slice none 0 0) [] :=
  ⟨[], fun _ => 0, fun _ => 0, fun _ => ⟨#[]⟩, fun _ => .slice none 0 0, World.ownsRow_nil _ _ _ _, ⟨fun _ h => absurd h (Nat.not_lt_zero _), fun _ h => absurd h (Nat.not_lt_zero _), fun _ h => absurd h (Nat.not_lt_zero _), fun _ h => absurd h (Nat.not_lt_zero _)⟩, fun _ h => absurd h (Nat.not_lt_zero _)⟩

theorem KR.row {b B : Nat} {w w1 w2 : World} {v : Value} {o : Obj} (h : KR b w w1) (hB : w.heap.size ≤ B) (hg : (w1.alloc o).grownBy w2 v.ownBlock) (ho : ∀ k, v.ownBlock = some k → B ≤ k) : KR b w w2 := by
  have h1 := h.size
  have h2 := hg.size
  have h3 : (w1.alloc o).heap.size = w1.heap.size + 1 := by simp
  refine ⟨hg.os.trans h.os, hg.tape.trans h.tape, hg.output.trans h.output, by omega, fun k hk hb => ?_⟩
  rw [hg.block k (by omega) (fun e => by have := ho k e.symm; omega), Below.heap_alloc _ _ _ (by omega)]
  exact h.block k hk hb

theorem RD.grown {b H : Nat} {w1 w2 : World} {v u : Value} {l : List Nat} {o : Obj} (h : RD w1 b H u l) (hg : (w1.alloc o).grownBy w2 v.ownBlock) (ho : ∀ k, v.ownBlock = some k → H ≤ k ∧ k ≠ b) : RD w2 b H u l := by
  have h2 := hg.size
  have h3 : (w1.alloc o).heap.size = w1.heap.size + 1 := by simp
  have hlt := h.lt
  have hk : ∀ k, k < w1.heap.size → v.ownBlock ≠ some k → w2.heap[k]? = w1.heap[k]? := fun k h4 h5 => by
    rw [hg.block k (by omega) (fun e => h5 e.symm)]; exact Below.heap_alloc _ _ _ h4
  have e := hk b hlt (fun e => (ho b e).2 rfl)
  refine ⟨(World.cell?_of_block (w := w1) (a := ⟨b, 0, none⟩) e).trans h.c, fun i => (World.frozen?_of_block (w := w1) (a := ⟨b, i, none⟩) e).trans (h.fz i), ?_, h.ne, h.hi, by omega⟩
  obtain ⟨h1, a, cap, h2, h3, h4, h5⟩ := h.br
  refine ⟨h1, a, cap, h2, h3, h4, ?_⟩
  rcases h5 with c | ⟨x, e2, hc⟩
  · exact Or.inl c
  · refine Or.inr ⟨x, e2, fun i hi => ?_⟩
    have hx := h.hi x _ _ (by rw [h2, e2])
    have hlt2 : x.block < w1.heap.size := by
      have := hc i hi
      rcases Nat.lt_or_ge x.block w1.heap.size with q | q
      · exact q
      · exfalso
        unfold World.cell? at this
        rw [add_block, Array.getElem?_eq_none q] at this
        simp at this
    rw [← hc i hi]
    exact World.cell?_of_block (w := w1) (a := x.add i) (by rw [add_block]; exact hk x.block hlt2 (fun e => by have := (ho _ e).1; omega))

set_option maxHeartbeats 2000000 in
theorem rcells_any (b H D : Nat) (HC : ∀ (v : Value) (l : List Nat) (w : World), RD w b H v l → H ≤ w.heap.size → l.length ≤ 1048576 → Calls Tryd.prog 57 #[.pointer (some ⟨b, 0, none⟩), .int .i64 (64 - (D : Int))] w (Readd (decT D l) b H w))
    (n : Nat) (v : Value) (l : List Nat) (w : World) (h : RD w b H v l) (hH : H ≤ w.heap.size) (hl : l.length ≤ 1048576) (hn : n ≤ 1048576) (r : Nat ⊕ (List Tr × List Nat)) (hr : r = decL (decT D) n l) :
    Calls Tryd.prog 67 #[.pointer (some ⟨b, 0, none⟩), .int .i64 n, .int .i64 (64 - (D : Int))] w (ReadL r b H w) := by
  obtain ⟨i0, hi0, hz0, hz1, hz2⟩ := info_parts info25b
  have HR : Hid (r = decL (decT D) n l) := hr
  have HCC : Hid _ := HC
  have hlt := h.lt
  have HS : Hid (TW w w.heap.size (.slice none 0 0) [] ∧ RD w b H v l) := ⟨TW_nil _ _, h⟩
  clear h hr HC
  go_enter Tryd.func67, Tryd.ntmps67
  go_wp2_with fail
  go_loopw [7, 9] (fun t7 t9 wr => ∃ (i : Nat), i ≤ n ∧ t9 = .int .i64 i ∧ Hid (∃ ts l2 v2, TW wr w.heap.size t7 ts ∧ RD wr b H v2 l2 ∧ KR b w wr ∧ l2.length ≤ 1048576 ∧ decL (decT D) i l = .inr (ts, l2))) (fun _ t9 _ => n - (intOf t9).toNat)
  case atStart => exact ⟨0, Nat.zero_le _, rfl, ⟨[], l, v, HS.out.1, HS.out.2, KR.refl _ _, hl, rfl⟩⟩
  case round =>
    obtain ⟨i, hi, rfl, HV⟩ := hrel
    obtain ⟨ts, l2, v2, g1, g2, g3, g4, g5⟩ := HV.out
    have hsz := g3.size
    by_cases c : i < n
    · have hcall := HCC.out v2 l2 wr g2 (by omega) g4
      have hsn := decL_snoc (decT D) i l
      rw [g5] at hsn
      simp only at hsn
      have HG : Hid (TW wr w.heap.size u7 ts ∧ KR b w wr ∧ ts.length = i) := ⟨g1, g3, decL_length _ _ _ _ _ g5⟩
      clear g1 g2 g3 g5 HV
      generalize decT D l2 = E at hcall hsn
      go_wp2_with fail
      refine hcall.mono ?_
      intro e w2 hrd
      clear hcall
      cases E with
      | inl x =>
        obtain ⟨rfl, hk⟩ := hrd
        have HQ : Hid (ReadL r b H w (gaveUp x) w2) := by
          have e1 : r = .inl x := by rw [HR.out]; exact decL_stop _ _ x (i + 1) hsn n (by omega)
          show ReadL r b H w (gaveUp x) w2
          rw [e1]
          exact ⟨rfl, HG.out.2.1.trans hk⟩
        clear hsn hk
        unfold gaveUp at HQ ⊢
        go_wp2
        exact ⟨rfl, HQ.out⟩
      | inr p =>
        obtain ⟨t, l3⟩ := p
        obtain ⟨cv, v3, rfl, q1, q2, q3, q4⟩ := hrd
        simp only at q1 q2 q4 hsn
        obtain ⟨k2, n2, s2, a2, m2, cap2, rfl⟩ := q1.form
        have hlen := HG.out.2.2
        have hs2 := q3.size
        obtain ⟨xs, ho1, ho2, hnext⟩ := HG.out.1.snocK (B := w.heap.size) (w1 := w2) (by omega) hs2 (fun k hk hk2 => q3.block k hk2 (by omega)) q1 (.cells #[.int .i64 k2, .int .u64 n2, .string s2, .slice a2 m2 cap2] 26)
        rw [hlen] at ho2
        have HNX : Hid (∀ (w3 : World) (g cap : Nat), _) := hnext
        have HQ3 : Hid (RD w2 b H v3 l3 ∧ KR b wr w2 ∧ l3.length ≤ 1048576) := ⟨q2, q3, q4⟩
        have hs3 : w.heap.size ≤ w2.heap.size + 1 := by omega
        have HSN : Hid (decL (decT D) (i + 1) l = .inr (ts ++ [t], l3)) := hsn
        unfold cellV
        clear hnext ho1 q1 q2 q3 q4 hsn
        go_wp2_with (at_builtin; refine wpList_append_lies _ rfl _ _ 24 rfl (w.heap.size) 26 i0 _ 4 56 Tryd.underlying24 hi0 hz0 hz1 hz2 rfl (by decide) _ i xs rfl ho2 ⟨w2.heap.size, 0, none⟩ 1 1 (quad k2 n2 s2 (.slice a2 m2 cap2)) rfl rfl (cells_quad _ _ _ _ _ _) (by intro u hu; simp [quad] at hu; rcases hu with rfl | rfl | rfl | rfl <;> rfl) (by decide) (by unfold maxLen; omega) (by omega) (by simp; omega) _ rfl ?_)
        intro g3 cap3 w3 hown3 hgrow3 hat3 _
        have HV3 : Hid (∃ ts l2 v2, TW w3 w.heap.size (.slice (some ⟨g3, 0, none⟩) (i + 1) cap3) ts ∧ RD w3 b H v2 l2 ∧ KR b w w3 ∧ l2.length ≤ 1048576 ∧ decL (decT D) (i + 1) l = .inr (ts, l2)) := by
          have h1 := HNX.out w3 g3 cap3 (by rw [hlen]; exact hown3) hgrow3 (by simpa using hat3)
          rw [hlen] at h1
          refine ⟨_, l3, v3, h1, HQ3.out.1.grown hgrow3 (fun k hk => ?_), (HG.out.2.1.trans HQ3.out.2.1).row (Nat.le_refl _) hgrow3 (fun k hk => (ho2.lt k hk).1), HQ3.out.2.2, HSN.out⟩
          have := (ho2.lt k hk).1
          omega
        clear hown3 hgrow3 hat3 ho2 hs2
        go_wp2
        go_roundw
        case rel => exact ⟨i + 1, by omega, by go_num, HV3⟩
        case measure => simp [intOf]; omega
    · have e : i = n := by omega
      subst e
      obtain ⟨a7, cap7, e7⟩ : ∃ a7 cap7, u7 = .slice a7 ts.length cap7 := by
        obtain ⟨xs, _, _, _, _, h1, _⟩ := g1
        exact ownsRow_slice h1
      subst e7
      have HQ : Hid (ReadL r b H w (.returned (.slice a7 ts.length cap7)) wr) := by
        have e1 : r = .inr (ts, l2) := by rw [HR.out]; exact g5
        show ReadL r b H w _ wr
        rw [e1]
        exact ⟨_, v2, rfl, g1, g2, g3, g4⟩
      clear g1 g2 g3 g4 g5 HV
      go_wp2
      go_ret
      exact HQ.out

end Go.Proofs.YtjngknnkffbnmaaDoor
