/-
  Layer 20: bytes as a text; a disk of a law's own; the laws' lives, walked.
-/
import Derived.Test.YtgkgflkcnigeaaaDkCrash
import Derived.Lib.SlBytesConst
namespace Go.Proofs.Ytgkgflkcnigeaaa
set_option maxRecDepth 100000
open Go.RowKit Txt Go.Maps Dk

namespace Dk
/-! ### bytes as a text -/
def tx (s : ByteArray) : List Nat := s.data.toList.map UInt8.toNat
def bsN (l : List Nat) : ByteArray := strOfNums (l.map Int.ofNat)
theorem tx_bsN {l : List Nat} (hl : Sm8 l) : tx (bsN l) = l := by
  unfold tx bsN
  rw [strOfNums_data, List.map_map, List.map_map]
  conv => rhs; rw [← List.map_id l]
  apply List.map_congr_left
  intro d hd
  have := hl d hd
  simp [Function.comp]
  omega
theorem bsN_inj {l m : List Nat} (hl : Sm8 l) (hm : Sm8 m) (h : bsN l = bsN m) : l = m := by rw [← tx_bsN hl, h, tx_bsN hm]
theorem bsN_eq {l m : List Nat} (hl : Sm8 l) (hm : Sm8 m) : ((bsN l).toList == (bsN m).toList) = decide (l = m) := by
  by_cases c : l = m
  · subst c; simp
  · rw [decide_eq_false c, beq_eq_false_iff_ne]
    intro e
    rw [ByteArray.toList_eq, ByteArray.toList_eq] at e
    exact c (bsN_inj hl hm (Go.WideShapes.bytes_inj e))
theorem conv_any {w : World} {v : Value} {l : List Nat} (h : BR w v l) : (convert 33 9 v).run Try.prog w = .ok (.string (bsN l)) w := by
  obtain ⟨s1, a, cap, rfl, h3, h4, h5⟩ := id h
  by_cases c : l.length = 0
  · have e : l = [] := List.eq_nil_of_length_eq_zero c
    subst e
    rcases h5 with ⟨rfl, rfl⟩ | ⟨x, rfl, _⟩
    · exact run_convert_bytes_nil w _ _ Try.underlying33 Try.underlying5 _ _ _ Try.underlying9
    · have := run_loadCells_list (P := Try.prog) w x [] (fun j u hj => by simp at hj)
      rw [run_convert_bytes_string w _ _ _ _ _ _ Try.underlying33 Try.underlying5 Try.underlying9, run_bytesToString w x _ cap [] (by simpa using this)]
      rfl
  · obtain ⟨b, o, rfl, _, hc⟩ := h.lies (by omega)
    refine run_convert_bytes_arg w _ _ Try.underlying33 Try.underlying5 b o l.length cap (l.map Int.ofNat) (by rw [List.length_map]) ?_ _ Try.underlying9
    intro i hi
    rw [hc i hi]
    congr 2
    rw [List.getD_eq_getElem?_getD, List.getD_eq_getElem?_getD, List.getElem?_map, List.getElem?_eq_getElem hi]
    rfl
theorem br_made (w : World) (l : List Nat) (fr : Nat × Nat) (hl : Sm8 l) (hn : l.length ≤ maxLen) : BR (w.alloc (.cells (c8 l).toArray 5 fr)) (.slice (some ⟨w.heap.size, 0, none⟩) l.length l.length) l := by
  refine ⟨hl, _, _, rfl, Nat.le_refl _, hn, Or.inr ⟨_, rfl, ?_⟩⟩
  intro i hi
  rw [add0, Lib.cell_of_heap (heap_alloc_new w _), List.getElem?_toArray]
  exact c8_get hi
theorem br_keep {X : Nat → Prop} {w w' : World} {g n c : Nat} {l : List Nat} (h : BR w (.slice (some ⟨g, 0, none⟩) n c) l) (k : Wx X w w') (hX : ¬ X g) : BR w' (.slice (some ⟨g, 0, none⟩) n c) l := by
  obtain ⟨h1, a, cap, e, h3, h4, h5⟩ := h
  refine ⟨h1, a, cap, e, h3, h4, ?_⟩
  simp only [Value.slice.injEq] at e
  obtain ⟨rfl, -, -⟩ := e
  rcases h5 with ⟨c, _⟩ | ⟨x, e, hc⟩
  · cases c
  · refine Or.inr ⟨x, e, fun i hi => ?_⟩
    cases e
    have := hc i hi
    rw [add0] at this ⊢
    exact k.cell hX this

/-! ### a disk of a law's own -/
/-- A disk that was made since w0. -/
structure Lv (w0 w : World) (db : Nat) (S : Ps) : Prop where
  lies : ∃ X, Dsk w X db S ∧ (∀ k, X k → w0.heap.size ≤ k) ∧ ∀ k, X k → k < w.heap.size
  low : Below w0.heap.size w0 w
theorem Lv.below {w0 w w' : World} {db : Nat} {S : Ps} (h : Lv w0 w db S) (k : Below w.heap.size w w') : Lv w0 w' db S := by
  obtain ⟨X, h1, h2, h3⟩ := h.lies
  exact ⟨⟨X, h1.below k, h2, fun i hi => Nat.lt_of_lt_of_le (h3 i hi) k.size⟩, h.low.trans (k.mono h.low.size)⟩
theorem Lv.next {w0 w w' : World} {X : Nat → Prop} {db : Nat} {S : Ps} (hl : Below w0.heap.size w0 w) (h2 : ∀ k, X k → w0.heap.size ≤ k) (h3 : ∀ k, X k → k < w.heap.size) (h : Dsk w' (nxt X w w') db S) (k : Wx X w w') : Lv w0 w' db S :=
  ⟨⟨_, h, fun i hi => by
    rcases hi with hi | hi
    · exact h2 i hi
    · exact Nat.le_trans hl.size hi.1, nxt_lt h3 k.size⟩, hl.trans (k.below h2 hl.size)⟩
end Dk

theorem lv_new (n : Int) (w : World) (c : ¬ n < 0) (c2 : ¬ n > 67108864) : Calls Try.prog 7 #[.int .i64 n] w fun e w' =>
    e = .returned (.tuple #[.pointer (some ⟨w.heap.size + 1, 0, none⟩), .int .i64 0]) ∧ Lv w w' (w.heap.size + 1) ⟨n.toNat, 0, 0, []⟩ := by
  refine (new_any n w c c2).mono ?_
  rintro e w' ⟨he, hD, hb, hs⟩
  exact ⟨he, ⟨_, hD, fun k hk => by rcases hk with rfl | rfl <;> omega, fun k hk => by rcases hk with rfl | rfl <;> omega⟩, hb⟩
theorem lv_append (w0 w w' : World) (db : Nat) (S : Ps) (s : List UInt8) (v : Value) (l : List Nat) (h : Lv w0 w db S) (hb : Below w.heap.size w w') (hs : s.length ≤ 9223372036854775807) (hv : BR w' v l) (hvx : ∀ X, (∀ k, X k → k < w.heap.size) → ∀ w'', Wx X w' w'' → BR w'' v l) (hl : S.P.length ≤ 1000000000) :
    Calls Try.prog 14 #[.pointer (some ⟨db, 0, none⟩), .string (bs s), v] w' fun e w'' => e = .returned (.int .i64 (appP S s l).1) ∧ Lv w0 w'' db (appP S s l).2 := by
  obtain ⟨X, h1, h2, h3⟩ := h.lies
  refine (append_any X db S s v l w' (h1.below hb) hs hv (hvx X h3) hl).mono ?_
  rintro e w'' ⟨he, hd, hk⟩
  exact ⟨he, Lv.next (h.below hb).low h2 (fun k hk => Nat.lt_of_lt_of_le (h3 k hk) hb.size) hd hk⟩
theorem lv_crash (w0 w w' : World) (db : Nat) (S : Ps) (keep : Int) (v : Value) (l : List Nat) (h : Lv w0 w db S) (hb : Below w.heap.size w w') (hk : keep ≤ 9223372036854775807) (hv : BR w' v l) (hvx : ∀ X, (∀ k, X k → k < w.heap.size) → ∀ w'', Wx X w' w'' → BR w'' v l) (hl : S.P.length ≤ 1000000000) :
    Calls Try.prog 16 #[.pointer (some ⟨db, 0, none⟩), .int .i64 keep, v] w' fun e w'' => e = .returned (.tuple #[]) ∧ Lv w0 w'' db (crashP S keep l) := by
  obtain ⟨X, h1, h2, h3⟩ := h.lies
  refine (crash_any X db S keep v l w' (h1.below hb) hk hv (hvx X h3) hl).mono ?_
  rintro e w'' ⟨he, hd, hk⟩
  exact ⟨he, Lv.next (h.below hb).low h2 (fun k hk => Nat.lt_of_lt_of_le (h3 k hk) hb.size) hd hk⟩
theorem lv_sync (w0 w : World) (db : Nat) (S : Ps) (s : List UInt8) (h : Lv w0 w db S) (hs : s.length ≤ 9223372036854775807) :
    Calls Try.prog 15 #[.pointer (some ⟨db, 0, none⟩), .string (bs s)] w fun e w'' => e = .returned (.int .i64 (syncP S s).1) ∧ Lv w0 w'' db (syncP S s).2 := by
  obtain ⟨X, h1, h2, h3⟩ := h.lies
  refine (sync_any X db S s w h1 hs).mono ?_
  rintro e w'' ⟨he, hd, hk⟩
  exact ⟨he, Lv.next h.low h2 h3 hd hk⟩
theorem lv_trunc (w0 w : World) (db : Nat) (S : Ps) (s : List UInt8) (n : Int) (h : Lv w0 w db S) (hs : s.length ≤ 9223372036854775807) :
    Calls Try.prog 19 #[.pointer (some ⟨db, 0, none⟩), .string (bs s), .int .i64 n] w fun e w'' => e = .returned (.int .i64 (truncP S s n).1) ∧ Lv w0 w'' db (truncP S s n).2 := by
  obtain ⟨X, h1, h2, h3⟩ := h.lies
  refine (trunc_any X db S s n w h1 hs).mono ?_
  rintro e w'' ⟨he, hd, hk⟩
  exact ⟨he, Lv.next h.low h2 h3 hd hk⟩
theorem lv_remove (w0 w : World) (db : Nat) (S : Ps) (s : List UInt8) (h : Lv w0 w db S) (hs : s.length ≤ 9223372036854775807) :
    Calls Try.prog 24 #[.pointer (some ⟨db, 0, none⟩), .string (bs s)] w fun e w'' => e = .returned (.int .i64 (removeP S s).1) ∧ Lv w0 w'' db (removeP S s).2 := by
  obtain ⟨X, h1, h2, h3⟩ := h.lies
  refine (remove_any X db S s w h1 hs).mono ?_
  rintro e w'' ⟨he, hd, hk⟩
  exact ⟨he, Lv.next h.low h2 h3 hd hk⟩
theorem lv_rename (w0 w : World) (db : Nat) (S : Ps) (s t : List UInt8) (h : Lv w0 w db S) (hs : s.length ≤ 9223372036854775807) (ht : t.length ≤ 9223372036854775807) (hl : S.P.length ≤ 1000000000) :
    Calls Try.prog 18 #[.pointer (some ⟨db, 0, none⟩), .string (bs s), .string (bs t)] w fun e w'' => e = .returned (.int .i64 (renameP S s t).1) ∧ Lv w0 w'' db (renameP S s t).2 := by
  obtain ⟨X, h1, h2, h3⟩ := h.lies
  refine (rename_any X db S s t w h1 hs ht hl).mono ?_
  rintro e w'' ⟨he, hd, hk⟩
  exact ⟨he, Lv.next h.low h2 h3 hd hk⟩
theorem lv_cut (w0 w : World) (db : Nat) (S : Ps) (n : Int) (h : Lv w0 w db S) (hn : n ≤ 9223372036854775807) :
    Calls Try.prog 17 #[.pointer (some ⟨db, 0, none⟩), .int .i64 n] w fun e w'' => e = .returned (.tuple #[]) ∧ Lv w0 w'' db (cutP S n) := by
  obtain ⟨X, h1, h2, h3⟩ := h.lies
  refine (cut_any X db S n w h1 hn).mono ?_
  rintro e w'' ⟨he, hd, hk⟩
  exact ⟨he, Lv.next h.low h2 h3 hd hk⟩

namespace Dk
def readP (P : List Pl) (s : List UInt8) : List Nat := match lookP P s with | some f => f.l | none => []
def fastOf (P : List Pl) (s : List UInt8) : Nat := match lookP P s with | some f => f.fa | none => 0
theorem bytes_pl (F : List Fl) (s : List UInt8) : bytesAt F s = readP (F.map Fl.pl) s := by
  unfold bytesAt readP
  rw [look_pl]
  cases lookF F s <;> rfl
theorem fast_pl (F : List Fl) (s : List UInt8) : fastAt F s = fastOf (F.map Fl.pl) s := by
  unfold fastAt fastOf
  rw [look_pl]
  cases lookF F s <;> rfl
theorem is_pl (F : List Fl) (s : List UInt8) : (lookF F s).isSome = (lookP (F.map Fl.pl) s).isSome := by
  rw [look_pl]
  cases lookF F s <;> rfl
end Dk
theorem lv_read (w0 w : World) (db : Nat) (S : Ps) (s : List UInt8) (h : Lv w0 w db S) (hs : s.length ≤ 9223372036854775807) :
    Calls Try.prog 12 #[.pointer (some ⟨db, 0, none⟩), .string (bs s)] w fun e w' => ∃ v', e = .returned (.tuple #[v', .bool (lookP S.P s).isSome]) ∧ FB w' v' (readP S.P s) ∧ (∀ g, v'.ownBlock = some g → w.heap.size ≤ g) ∧ Below w.heap.size w w' := by
  obtain ⟨X, h1, h2, h3⟩ := h.lies
  obtain ⟨mb, F, eF, hD⟩ := h1.lies
  have hr := read_any X db mb S.sz (lenP S.P) S.pw S.lf F s w hD hs (h1.len eF)
  rw [is_pl, bytes_pl, eF] at hr
  exact hr
theorem lv_fast (w0 w : World) (db : Nat) (S : Ps) (s : List UInt8) (h : Lv w0 w db S) (hs : s.length ≤ 9223372036854775807) :
    Calls Try.prog 13 #[.pointer (some ⟨db, 0, none⟩), .string (bs s)] w fun e w' => e = .returned (.int .i64 (fastOf S.P s : Nat)) ∧ w' = w := by
  obtain ⟨X, h1, h2, h3⟩ := h.lies
  obtain ⟨mb, F, eF, hD⟩ := h1.lies
  have hr := fast_any X db mb S.sz (lenP S.P) S.pw S.lf F s w hD hs
  rw [fast_pl, eF] at hr
  exact hr
theorem lv_used (w0 w : World) (db : Nat) (S : Ps) (h : Lv w0 w db S) :
    Calls Try.prog 11 #[.pointer (some ⟨db, 0, none⟩)] w fun e w' => e = .returned (.int .i64 (lenP S.P : Nat)) ∧ w' = w := by
  obtain ⟨X, h1, h2, h3⟩ := h.lies
  obtain ⟨mb, F, eF, hD⟩ := h1.lies
  exact used_any X db mb S.sz (lenP S.P) S.pw S.lf F w hD
theorem lv_names (w0 w : World) (db : Nat) (S : Ps) (h : Lv w0 w db S) (hl : S.P.length ≤ 1000000000) :
    Calls Try.prog 28 #[.pointer (some ⟨db, 0, none⟩)] w fun e w' => ∃ v, e = .returned v ∧ w'.ownsRow w.heap.size 9 1 v S.P.length ((S.P.map Pl.nm).map encStr) ∧ Below w.heap.size w w' := by
  obtain ⟨X, h1, h2, h3⟩ := h.lies
  obtain ⟨mb, F, eF, hD⟩ := h1.lies
  have hr := names_any X db mb S.sz (lenP S.P) S.pw S.lf F w hD (by rw [← eF, List.length_map] at hl; exact hl)
  have e1 : F.length = S.P.length := by rw [← eF, List.length_map]
  have e2 : F.map Fl.nm = S.P.map Pl.nm := by rw [← eF, List.map_map]; rfl
  rw [e1, e2] at hr
  exact hr

set_option maxHeartbeats 2000000 in
theorem lives_any (w : World) : Calls Try.prog 8 #[] w fun e w' => e = .returned (.bool true) ∧ Below w.heap.size w w' := by
  have kc := fun (w : World) (C : Array Value) (n c : Nat) => Lib.run_convert_bytes_const (P := Try.prog) w 33 5 C n c Try.underlying33 Try.underlying5
  have hnew := lv_new 100 w (by decide) (by decide)
  have HA : Hid (∀ w1 S s l db fr, Lv w w1 db S → Sm8 l → l.length ≤ 100 → s.length ≤ 100 → S.P.length ≤ 100 → Calls Try.prog 14 #[.pointer (some ⟨db, 0, none⟩), .string (bs s), .slice (some ⟨w1.heap.size, 0, none⟩) l.length l.length] (w1.alloc (.cells (c8 l).toArray 5 fr)) fun e w'' => e = .returned (.int .i64 (appP S s l).1) ∧ Lv w w'' db (appP S s l).2) := fun w1 S s l db fr h hs h1 h2 h3 =>
    lv_append w w1 _ db S s _ l h ((Below.refl _ _).alloc (Nat.le_refl _) _) (by omega) (br_made w1 l fr hs (by unfold maxLen; omega)) (fun X hX w'' k => br_keep (br_made w1 l fr hs (by unfold maxLen; omega)) k fun hx => Nat.lt_irrefl _ (hX _ hx)) (by omega)
  have HC : Hid (∀ w1 S keep l db fr, Lv w w1 db S → Sm8 l → l.length ≤ 100 → keep ≤ 100 → S.P.length ≤ 100 → Calls Try.prog 16 #[.pointer (some ⟨db, 0, none⟩), .int .i64 keep, .slice (some ⟨w1.heap.size, 0, none⟩) l.length l.length] (w1.alloc (.cells (c8 l).toArray 5 fr)) fun e w'' => e = .returned (.tuple #[]) ∧ Lv w w'' db (crashP S keep l)) := fun w1 S keep l db fr h hs h1 h2 h3 =>
    lv_crash w w1 _ db S keep _ l h ((Below.refl _ _).alloc (Nat.le_refl _) _) (by omega) (br_made w1 l fr hs (by unfold maxLen; omega)) (fun X hX w'' k => br_keep (br_made w1 l fr hs (by unfold maxLen; omega)) k fun hx => Nat.lt_irrefl _ (hX _ hx)) (by omega)
  have E1 : Hid (appP ⟨100, 0, 0, []⟩ [97] [97, 98] = (0, ⟨100, 0, 0, [⟨[97], [97, 98], 0⟩]⟩)) := rfl
  have E2 : Hid (syncP ⟨100, 0, 0, [⟨[97], [97, 98], 0⟩]⟩ [97] = (0, ⟨100, 0, 0, [⟨[97], [97, 98], 2⟩]⟩)) := rfl
  have E3 : Hid (appP ⟨100, 0, 0, [⟨[97], [97, 98], 2⟩]⟩ [97] [99, 100] = (0, ⟨100, 0, 0, [⟨[97], [97, 98, 99, 100], 2⟩]⟩)) := rfl
  have E4 : Hid (crashP ⟨100, 0, 0, [⟨[97], [97, 98, 99, 100], 2⟩]⟩ 1 [120] = ⟨100, 0, 0, [⟨[97], [97, 98, 99, 120], 4⟩]⟩) := rfl
  have HS : Hid (w.heap.size + 1 = w.heap.size + 1) := rfl
  generalize hdb : w.heap.size + 1 = db at *
  clear hdb HS
  go_enter Try.func8, Try.ntmps8
  go_wp2_with fail
  refine hnew.mono ?_
  rintro e w1 ⟨rfl, h1⟩
  have HL1 := hide_p h1
  clear h1 hnew
  go_wp2_with fail
  refine (HA.out w1 ⟨100, 0, 0, []⟩ [97] [97, 98] db (2, 3) HL1.out (by unfold Sm8; decide) (by decide) (by decide) (by decide)).mono ?_
  rintro e w2 ⟨rfl, h2⟩
  rw [E1.out] at h2
  have HL2 := hide_p h2
  clear h2 HL1
  go_wp2_with fail
  refine (lv_sync w w2 db _ [97] HL2.out (by decide)).mono ?_
  rintro e w3 ⟨rfl, h3⟩
  rw [E2.out] at h3
  have HL3 := hide_p h3
  clear h3 HL2
  go_wp2_with fail
  refine (HA.out w3 _ [97] [99, 100] db (2, 3) HL3.out (by unfold Sm8; decide) (by decide) (by decide) (by decide)).mono ?_
  rintro e w4 ⟨rfl, h4⟩
  rw [E3.out] at h4
  have HL4 := hide_p h4
  clear h4 HL3
  go_wp2_with fail
  refine (HC.out w4 _ 1 [120] db (1, 2) HL4.out (by unfold Sm8; decide) (by decide) (by decide) (by decide)).mono ?_
  rintro e w5 ⟨rfl, h5⟩
  rw [E4.out] at h5
  have HL5 := hide_p h5
  clear h5 HL4
  go_wp2_with fail
  refine (lv_read w w5 db _ [97] HL5.out (by decide)).mono ?_
  rintro e w6 ⟨v', rfl, q1, q2, q3⟩
  have hcv := conv_any q1.br
  have er : readP [⟨[97], [97, 98, 99, 120], 4⟩] [97] = [97, 98, 99, 120] := rfl
  rw [er] at hcv
  have ei : (lookP [⟨[97], [97, 98, 99, 120], 4⟩] [97]).isSome = true := rfl
  have HB : Hid (Below w.heap.size w w6) := HL5.out.low.trans (q3.mono HL5.out.low.size)
  have heq : (bsN [97, 98, 99, 120]).toList = [97, 98, 99, 120] := by
    rw [ByteArray.toList_eq]
    unfold bsN
    rw [strOfNums_data]
    rfl
  rw [ei]
  generalize bsN [97, 98, 99, 120] = R at *
  clear q1 q2 q3 HL5 HA HC E1 E2 E3 E4 er ei
  go_wp2
  go_ret
  exact ⟨by first | rfl | simp, HB.out⟩

end Go.Proofs.Ytgkgflkcnigeaaa
