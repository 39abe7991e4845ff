/-
  LxSign, LxBytes
-/
import Derived.Deep.MidRow
import Derived.Test.YtfhoimfjfbbhaaaDoorZ14

/-
  Layer 10: the landed reader's sign, walked.
-/
namespace Go.Proofs.YtfhoimfjfbbhaaaDoor
set_option maxRecDepth 100000
open Go.RowKit Txt Lx

/-- The table of signs lies in block 0. -/
def Sg (w : World) : Prop := 0 < w.heap.size ∧ ∀ r, r < 23 → w.cell? ⟨0, r, none⟩ = some (.string (bs (signsL.getD r [])))
theorem Sg.kept {w w' : World} {b : Nat} (h : Sg w) (hb : b ≠ 0) (hk : Kb b w w') : Sg w' :=
  ⟨Nat.lt_of_lt_of_le h.1 hk.size, fun r hr => (World.cell?_of_block (w := w) (a := ⟨0, r, none⟩) (hk.block 0 h.1 (fun e => hb e.symm))).trans (h.2 r hr)⟩

/-- The signs as values. -/
def sgV : List Value := signsL.map fun s => .string (bs s)
theorem sgV_at (k : Nat) (hk : k < 23) : sgV.toArray[k]? = some (.string (bs (signsL.getD k []))) := by
  have h : k < signsL.length := hk
  unfold sgV
  rw [List.getElem?_toArray, List.getElem?_map, List.getElem?_eq_getElem h, List.getD_eq_getElem?_getD, List.getElem?_eq_getElem h]
  rfl
theorem Sg.range {w : World} (h : Sg w) : w.rangeAt 0 0 sgV := by
  intro j v hv
  have hj : j < 23 := by
    have := List.getElem?_eq_some_iff.1 hv
    obtain ⟨hl, _⟩ := this
    exact hl
  have := sgV_at j hj
  rw [List.getElem?_toArray, hv] at this
  injection this with this
  rw [this, Nat.zero_add]
  exact h.2 j hj

theorem infoS : (Tryd.prog.info? 9).map (·.size) = some 1 := by kernel_rfl
theorem idx_law (A : Array Value) (i : Nat) (v : Value) (hi : i < 23) (hA : A[i]? = some v) (w : World) :
    Sem.run Tryd.prog (Instr.index 50 (.agg A) (.int .i64 (i : Int))) w = .ok v w := by
  have h1 := run_underlying Tryd.underlying50 w
  have h2 := run_underlying Tryd.underlying9 w
  have hs : (sizeOf 9).run Tryd.prog w = .ok 1 w := by
    cases hq : Tryd.prog.info? 9 with
    | none => have := infoS; rw [hq] at this; simp at this
    | some q => have := infoS; rw [hq] at this; simp at this; simp [sizeOf, typeInfo, hq, this]
  have ha : (isAgg 9).run Tryd.prog w = .ok false w := by unfold isAgg; rw [Sem.run_bind, h2]; simp
  have hc : (0 : Int) ≤ (i : Int) ∧ (i : Int) < ((23 : Nat) : Int) := by omega
  simp only [Instr.index, asIntOf, Sem.run_bind, Sem.run_pure, Result.andThen_ok, h1]
  rw [if_pos hc]
  simp only [Sem.run_bind, hs, Result.andThen_ok, part, ha, Int.toNat_natCast, Nat.mul_one, hA]
  rfl

theorem find_next {f : List UInt8 → Bool} {i : Nat} (hi : i < 23) (h : (signsL.take i).find? f = none) (hf : f (signsL.getD i []) = false) : (signsL.take (i + 1)).find? f = none := by
  have hl : i < signsL.length := hi
  rw [List.take_add_one, List.find?_append, h, List.getElem?_eq_getElem hl]
  rw [List.getD_eq_getElem?_getD, List.getElem?_eq_getElem hl] at hf
  simp only [Option.getD_some] at hf
  simp [hf]
theorem find_here {f : List UInt8 → Bool} {i : Nat} (hi : i < 23) (h : (signsL.take i).find? f = none) (hf : f (signsL.getD i []) = true) : signsL.find? f = some (signsL.getD i []) := by
  have hl : i < signsL.length := hi
  rw [List.getD_eq_getElem?_getD, List.getElem?_eq_getElem hl, Option.getD_some] at hf ⊢
  have e : (signsL.take i ++ signsL[i] :: signsL.drop (i + 1)).find? f = some signsL[i] := by
    rw [List.find?_append, h, List.find?_cons, hf]
    rfl
  rwa [← List.drop_eq_getElem_cons hl, List.take_append_drop] at e
theorem sign_len (i : Nat) : (signsL.getD i []).length ≤ 2 := by
  have h : ∀ s ∈ signsL, s.length ≤ 2 := by decide
  rw [List.getD_eq_getElem?_getD]
  cases e : signsL[i]? with
  | none => simp
  | some s => exact h s (List.mem_of_getElem? e)

set_option maxHeartbeats 2000000 in
theorem sign_any (b a : Nat) (l : List UInt8) (w : World) (h : Rd w b l a) (hs : Sg w) (hl : l.length ≤ 65536) (ha : a < l.length) (hb0 : b ≠ 0) :
    Calls Tryd.prog 25 #[.pointer (some ⟨b, 0, none⟩)] w (Got b l a (signW (l.drop a)) w) := by
  have hsz := bs_size l
  obtain ⟨r, hr⟩ : ∃ r, r = signW (l.drop a) := ⟨_, rfl⟩
  rw [← hr]
  have HRR : Hid (r = signW (l.drop a)) := hr
  clear hr
  obtain ⟨w0, hw0⟩ : ∃ w0, w0 = w.alloc (.cells #[.int .i64 0, .int .i64 0, .string ⟨#[]⟩, .int .u64 0] 31) := ⟨_, rfl⟩
  have hrd0 : Rd w0 b l a := by rw [hw0]; exact h.kept (Below.heap_alloc w _ b h.lt)
  have hs0 : Sg w0 := by rw [hw0]; exact hs.kept hb0 (Kb.alloc b _ _)
  have hlt := h.lt
  have hc1 := hrd0.c1
  have hrg := hs0.range
  rw [hw0] at hc1
  have HRd0 : Hid (Rd w0 b l a) := hrd0
  clear h hrd0 hs hs0
  go_enter Tryd.func25, Tryd.ntmps25
  go_upto_region 2 with fail
  rw [← hw0]
  have HW0 : Hid (w0 = w.alloc (.cells #[.int .i64 0, .int .i64 0, .string ⟨#[]⟩, .int .u64 0] 31)) := hw0
  clear hc1 hw0
  have hun := Tryd.underlying50
  go_cut [10, 11] (fun t u wc => t = .agg sgV.toArray ∧ u = .int .i64 0 ∧ wc = w0)
  case first =>
    refine wp_region_lit ?_
    refine wpList_load_mid rfl 50 _ rfl 0 0 rfl sgV _ hrg hun rfl (by kernel_rfl) ?_
    go_wp2_with fail
    go_meet
    case rel => exact ⟨rfl, rfl, rfl⟩
  case rest =>
    obtain ⟨rfl, rfl, rfl⟩ := hcut
    have hA : ∀ k, k < 23 → sgV.toArray[k]? = some (.string (bs (signsL.getD k []))) := sgV_at
    have hAs : sgV.toArray.size = 23 := rfl
    generalize sgV.toArray = A at *
    clear hrg
    go_wp2_with fail
    go_loopg [5, 11] 23 (fun k t5 t11 wr => ∃ i : Nat, i ≤ 23 ∧ t11 = .int .i64 i ∧ Hid (k = 23 - i ∧ wr = wc ∧ (signsL.take i).find? (fun s => s.isPrefixOf (l.drop a)) = none))
    case atStart => exact ⟨0, by omega, rfl, ⟨rfl, rfl, rfl⟩⟩
    case round =>
      obtain ⟨i, hi, rfl, HI⟩ := hrel
      obtain ⟨hk, rfl, hfd⟩ := HI.out
      have hrd := HRd0.out
      have hc0 := hrd.c0
      have hc1 := hrd.c1
      have hfz := hrd.fz 1
      have HKb : Hid (Kb b w wr) := by rw [HW0.out]; exact Kb.alloc _ _ _
      by_cases c : i < 23
      · have hAi := hA i c
        have c1 : (i : Int) < 23 := by omega
        have hix := fun w => idx_law A i _ c hAi w
        have hlen := sign_len i
        have HFN : Hid (List.isPrefixOf (signsL.getD i []) (l.drop a) = false → (signsL.take (i + 1)).find? (fun s => s.isPrefixOf (l.drop a)) = none) := fun hf => find_next c hfd hf
        have HFH : Hid (List.isPrefixOf (signsL.getD i []) (l.drop a) = true → r = .inr ⟨1, (signsL.getD i []).length, signsL.getD i [], 0⟩) := fun hf => by
          rw [HRR.out]; unfold signW; rw [find_here c hfd hf]
        have hsl : (bs l).extract a l.length = bs (l.drop a) := by rw [bs_extract, List.take_of_length_le (by simp)]
        have hpre := fun w => pref_gen (l.drop a) (signsL.getD i []) w (by rw [List.length_drop]; omega) (by omega)
        rw [← hsl] at hpre
        have hss := bs_size (signsL.getD i [])
        have hple : List.isPrefixOf (signsL.getD i []) (l.drop a) = true → a + (signsL.getD i []).length ≤ l.length := by
          intro hf
          have := (List.isPrefixOf_iff_prefix.1 hf).length_le
          rw [List.length_drop] at this
          omega
        generalize signsL.getD i [] = sg at *
        cases cp : List.isPrefixOf sg (l.drop a) with
        | true =>
          rw [cp] at hpre
          have hr := HFH.out cp
          have hle := hple cp
          obtain ⟨q0, q1, q2, q3, qz⟩ := made hlt (w' := wr) (by rw [HW0.out]; exact Kb.refl b _)
          have qz0 := qz 0
          have qz1 := qz 1
          have qz2 := qz 2
          have qz3 := qz 3
          have HQ : Hid (∀ w', Below w.heap.size (wr.setCell ⟨b, 1, none⟩ (.int .i64 ((a + sg.length : Nat) : Int))) w' → Went b l (a + sg.length) w w') := by
            intro w' hb'
            exact ⟨(HKb.out.trans (Kb.set _ _ _ _)).more hb', (hrd.set _).kept (hb'.block b hlt)⟩
          have HR : Hid (r = .inr ⟨1, sg.length, sg, 0⟩) := hr
          generalize hS : bs sg = S at *
          have HS : Hid (bs sg = S) := hS
          generalize hL : sg.length = ln at *
          generalize bs l = s at *
          have hne : b ≠ w.heap.size := by omega
          clear HI hk hfd HFN HFH hsl hple cp hr hrd qz hA hAi hun hAs hS hL
          generalize hg0 : w.heap.size = g0 at *
          go_wp2_with fail
          refine (hpre _).mono ?_
          rintro e w2 ⟨rfl, rfl⟩
          go_wp2
          refine bodyPost_ret (v := .agg #[.int .i64 1, .int .i64 a, .string S, .int .u64 0]) (by simp [results, Tryd.results25, go_sem, q0, q1, q2, q3]) rfl ?_
          rw [HR.out]
          refine ⟨by rw [← HS.out]; rfl, ?_⟩
          show Went b l (a + ln) w _
          refine HQ.out _ (set4 ?_ (Nat.le_refl _) _ _ _ _)
          rw [show ((a + ln : Nat) : Int) = (a : Int) + (ln : Int) by omega]
          exact Below.refl _ _
        | false =>
          rw [cp] at hpre
          have HN : Hid _ := HFN.out cp
          generalize bs sg = S at *
          generalize bs l = s at *
          clear HI hfd HFN HFH hsl hple cp hrd hA hAi hun hAs
          go_wp2_with fail
          refine (hpre _).mono ?_
          rintro e w2 ⟨rfl, rfl⟩
          go_wp2_with fail
          go_roundg (23 - (i + 1))
          case measure => omega
          case rel => exact ⟨i + 1, by omega, by go_num, ⟨rfl, rfl, HN.out⟩⟩
      · have hi3 : i = 23 := by omega
        subst hi3
        have HR : Hid (r = .inl (0, 4)) := by
          show r = _
          rw [HRR.out]; unfold signW
          rw [show signsL = signsL.take 23 from rfl, hfd]
        clear HI hk hfd hrd hA hun hAs
        go_wp2
        refine ⟨rfl, ?_⟩
        rw [HR.out]
        exact ⟨rfl, HKb.out⟩

end Go.Proofs.YtfhoimfjfbbhaaaDoor

/-
  Layer 10: bytes in a block of their own; what a text's bytes come to.
-/
namespace Go.Proofs.YtfhoimfjfbbhaaaDoor
set_option maxRecDepth 100000
open Go.RowKit Txt Lx

theorem rowKeep {w w' : World} {B e s n : Nat} {v : Value} {xs : List Value} (h : w.ownsRow B e s v n xs) (hk : ∀ k, B ≤ k → k < w.heap.size → w'.heap[k]? = w.heap[k]?) : w'.ownsRow B e s v n xs := by
  refine ⟨h.1, ?_⟩
  rcases h.2 with hn | ⟨g, cap, cur, rfl, h0, hg, rest⟩
  · exact .inl hn
  · refine .inr ⟨g, cap, cur, rfl, h0, ?_, rest⟩
    rw [hk g h0 ?_]
    · exact hg
    · rcases Nat.lt_or_ge g w.heap.size with c | c
      · exact c
      · rw [Array.getElem?_eq_none c] at hg; cases hg
theorem rowShape {w : World} {B e s n : Nat} {v : Value} {xs : List Value} (h : w.ownsRow B e s v n xs) : ∃ a cap, v = .slice a n cap := by
  rcases h.2 with ⟨rfl, rfl⟩ | ⟨g, cap, cur, rfl, _⟩
  · exact ⟨_, _, rfl⟩
  · exact ⟨_, _, rfl⟩

theorem info8x : (Tryd.prog.info? 5).map (fun i => (i.zero, i.size, i.bytes)) = some (some (.int .u8 0), 1, 1) := by kernel_rfl
def b8 (l : List UInt8) : List Value := l.map fun c => Value.int .u8 (c.toNat : Int)
theorem b8_length (l : List UInt8) : (b8 l).length = l.length := by unfold b8; simp
theorem b8_snoc (l : List UInt8) (c : UInt8) : b8 (l ++ [c]) = b8 l ++ [.int .u8 (c.toNat : Int)] := by unfold b8; simp
/-- The slice v, in a block not below B that is all its own, holds the bytes l. -/
def OB (w : World) (B : Nat) (v : Value) (l : List UInt8) : Prop := w.ownsRow B 5 1 v l.length (b8 l)
theorem OB.keep {w w' : World} {B : Nat} {v : Value} {l : List UInt8} (h : OB w B v l) (hk : ∀ k, B ≤ k → k < w.heap.size → w'.heap[k]? = w.heap[k]?) : OB w' B v l := rowKeep h hk
theorem bs_nums (l : List UInt8) : strOfNums (l.map fun c => (c.toNat : Int)) = bs l := by
  apply Go.WideShapes.bytes_inj
  rw [strOfNums_data, bs_list, List.map_map]
  conv => rhs; rw [← List.map_id l]
  apply List.map_congr_left
  intro c _
  simp [Function.comp]
theorem OB.conv {w : World} {B : Nat} {v : Value} {l : List UInt8} (h : OB w B v l) : (convert 47 9 v).run Tryd.prog w = .ok (.string (bs l)) w := by
  rcases id h.2 with ⟨rfl, h0⟩ | ⟨g, cap, cur, rfl, hb, hg, r1, r2, r3, r4⟩
  · have : l = [] := List.eq_nil_of_length_eq_zero h0
    subst this
    exact run_convert_bytes_nil w _ _ Tryd.underlying47 Tryd.underlying5 _ _ _ Tryd.underlying9
  · rw [← bs_nums]
    refine run_convert_bytes_arg w _ _ Tryd.underlying47 Tryd.underlying5 g 0 l.length cap (l.map fun c => (c.toNat : Int)) (by rw [List.length_map]) ?_ _ Tryd.underlying9
    intro i hi
    have := World.ownsRow.cells h (g := g) rfl i (.int .u8 ((l.map fun c => (c.toNat : Int)).getD i 0)) ?_
    · have e : (⟨g, 0 + i, none⟩ : Addr) = Addr.add ⟨g, 0, none⟩ i := by rw [Addr.add_mid]
      rw [e]; exact this
    · unfold b8
      rw [List.getElem?_map, List.getElem?_eq_getElem hi, List.getD_eq_getElem?_getD, List.getElem?_map, List.getElem?_eq_getElem hi]; rfl

/-! The steps of what stands behind a text's beginning. -/
theorem txt_quote {m : List UInt8} (h0 : 0 < m.length) (h : hb m = 34) (p : Nat) (o : Option Nat) (a : List UInt8) : txt m p o a = some (p + 1, o, a) := by
  rcases m with _ | ⟨c, _ | ⟨d, r⟩⟩
  · simp at h0
  · have h' : c = 34 := h
    unfold txt; rw [if_pos h']
  · have h' : c = 34 := h
    unfold txt; rw [if_pos h']
theorem txt_lf {m : List UInt8} (h : hb m = 10) (p : Nat) (o : Option Nat) (a : List UInt8) : txt m p o a = none := by
  rcases m with _ | ⟨c, _ | ⟨d, r⟩⟩
  · rfl
  · have h' : c = 10 := h
    subst h'; rfl
  · have h' : c = 10 := h
    subst h'; unfold txt; rfl
theorem txt_esc {m : List UInt8} {e : UInt8} (h : hb m = 92) (h2 : esc (hb (m.drop 1)) = some e) (p : Nat) (o : Option Nat) (a : List UInt8) : txt m p o a = txt (m.drop 2) (p + 2) o (a ++ [e]) ∧ 2 ≤ m.length := by
  rcases m with _ | ⟨c, _ | ⟨d, r⟩⟩
  · exact absurd h (by decide)
  · have k : esc 10 = some e := h2
    exact absurd k (by rw [show esc 10 = none from rfl]; simp)
  · have h' : c = 92 := h
    have h2' : esc d = some e := h2
    subst h'
    refine ⟨?_, by simp⟩
    conv => lhs; unfold txt
    simp only [List.drop_succ_cons, List.drop_zero]
    rw [if_neg (by decide), if_neg (by decide), if_pos trivial, h2']
theorem txt_bad {m : List UInt8} (h : hb m = 92) (h2 : esc (hb (m.drop 1)) = none) (p : Nat) (o : Option Nat) (a : List UInt8) : txt m p o a = txt (m.drop 1) (p + 1) (o.or (some p)) (a ++ [92]) := by
  rcases m with _ | ⟨c, _ | ⟨d, r⟩⟩
  · exact absurd h (by decide)
  · have h' : c = 92 := h
    subst h'; rfl
  · have h' : c = 92 := h
    have h2' : esc d = none := h2
    subst h'
    conv => lhs; unfold txt
    simp only [List.drop_succ_cons, List.drop_zero]
    rw [if_neg (by decide), if_neg (by decide), if_pos trivial, h2']
theorem txt_other {m : List UInt8} (h1 : hb m ≠ 34) (h2 : hb m ≠ 10) (h3 : hb m ≠ 92) (p : Nat) (o : Option Nat) (a : List UInt8) : txt m p o a = txt (m.drop 1) (p + 1) o (a ++ [hb m]) := by
  rcases m with _ | ⟨c, _ | ⟨d, r⟩⟩
  · exact absurd rfl h2
  · have h' : c ≠ 34 := h1
    conv => lhs; unfold txt
    rw [if_neg h']; rfl
  · have h1' : c ≠ 34 := h1
    have h2' : c ≠ 10 := h2
    have h3' : c ≠ 92 := h3
    conv => lhs; unfold txt
    rw [if_neg h1', if_neg h2', if_neg h3']; rfl
theorem hb_pos {m : List UInt8} (h : hb m ≠ 10) : 0 < m.length := by
  cases m with
  | nil => exact absurd rfl h
  | cons c r => simp

end Go.Proofs.YtfhoimfjfbbhaaaDoor
