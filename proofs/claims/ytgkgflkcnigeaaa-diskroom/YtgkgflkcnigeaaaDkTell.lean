/-
  Layer 20: the landed disk: what is told of files; a new disk; when the power goes.
-/
import Derived.Test.YtgkgflkcnigeaaaDkDrop
import Derived.Carry
namespace Go.Proofs.Ytgkgflkcnigeaaa
set_option maxRecDepth 100000
open Go.RowKit Txt Go.Maps Go.Shelf Dk

namespace Dk
def bytesAt (F : List Fl) (s : List UInt8) : List Nat := match lookF F s with | some f => f.l | none => []
def fastAt (F : List Fl) (s : List UInt8) : Nat := match lookF F s with | some f => f.fa | none => 0
theorem names_sorted {F : List Fl} (h : F.Pairwise fun f g => f.nm < g.nm) {ss : List (List UInt8)} (hp : ss.Perm (strKeys (DF F))) : ss.mergeSort (fun x y => decide (x ≤ y)) = F.map Fl.nm := by
  rw [df_keys] at hp
  have e : ss.mergeSort leB = (F.map Fl.nm).mergeSort leB := mergeSort_of_perm hp
  refine e.trans ?_
  refine List.mergeSort_of_pairwise ?_
  refine List.pairwise_map.2 (h.imp fun {a b} hab => ?_)
  simp only [leB, decide_eq_true_eq]
  exact List.le_of_lt hab
end Dk

set_option maxHeartbeats 1000000 in
theorem clone_any (v : Value) (l : List Nat) (w : World) (h : FB w v l) (hl : l.length ≤ 1000000000000) :
    Calls Try.prog 30 #[v] w fun e w' => ∃ v', e = .returned v' ∧ FB w' v' l ∧ (∀ g, v'.ownBlock = some g → w.heap.size ≤ g) ∧ Below w.heap.size w w' := by
  rcases h.2 with ⟨rfl, rfl⟩ | ⟨g, cap, cur, rfl, hg, r1, r2, r3, r4⟩
  · have heq : ∀ w : World, (binOp .eql 33 (.slice none 0 0) (.slice none 0 0)).run Try.prog w = .ok (.bool true) w := fun w => Lib.run_eql_slice_nil w _ _ none 0 0 _ _ Try.underlying33
    go_enter Try.func30, Try.ntmps30
    go_wp2
    go_ret
    exact ⟨_, rfl, FB.nil _, fun g e => (by cases e), Below.refl _ _⟩
  · have heq : ∀ w : World, (binOp .eql 33 (.slice (some ⟨g, 0, none⟩) l.length cap) (.slice none 0 0)).run Try.prog w = .ok (.bool false) w := fun w => Lib.run_eql_slice_nil w _ _ (some ⟨g, 0, none⟩) l.length cap _ _ Try.underlying33
    have HB : Hid (FB (w.alloc (.cells #[] 5)) (.slice (some ⟨w.heap.size, 0, none⟩) 0 0) []) := ⟨(fun d h => by cases h), Or.inr ⟨w.heap.size, 0, #[], rfl, heap_alloc_new _ _, Nat.le_refl _, Nat.le_refl _, by unfold maxLen; simp, rfl⟩⟩
    have HV : Hid (BR (w.alloc (.cells #[] 5)) (.slice (some ⟨g, 0, none⟩) l.length cap) l) := h.br.below ((Below.refl _ _).alloc (Nat.le_refl _) _) (Nat.le_refl _)
    have HU : Hid (([] : List Nat).length + l.length ≤ 140737488355328) := by show _ ≤ _; simp; omega
    have HE : Hid (Below w.heap.size w (w.alloc (.cells #[] 5))) := (Below.refl _ _).alloc (Nat.le_refl _) _
    clear h hg r1 r2 r3 r4 hl
    go_enter Try.func30, Try.ntmps30
    go_wp2_with (at_builtin; refine wpList_append_fb rfl _ _ rfl _ _ rfl HB.out _ _ rfl HV.out HU.out ?_; intro a' c' w3 q1 q2 q3; replace q2 : (w.alloc (.cells #[] 5)).grownBy w3 (some w.heap.size) := q2; replace q3 : (Value.slice a' (([] : List Nat).length + l.length) c').ownBlock = some w.heap.size ∨ (Value.slice a' (([] : List Nat).length + l.length) c').ownBlock = some (w.alloc (.cells #[] 5)).heap.size := q3; have HQ : Hid (_ ∧ _ ∧ _) := ⟨q1, q2, q3⟩; clear q1 q2 q3)
    go_ret
    obtain ⟨q1, q2, q3⟩ := HQ.out
    refine ⟨_, rfl, by simpa using q1, fun i e => ?_, HE.out.trans ((Below.refl _ _).grown q2 HE.out.size fun k hk => Nat.le_of_eq (by simpa using hk))⟩
    have e' : (Value.slice a' (([] : List Nat).length + l.length) c').ownBlock = some i := by rw [List.length_nil, Nat.zero_add]; exact e
    rcases q3 with c | c
    · rw [c] at e'
      exact Nat.le_of_eq (by simpa using e')
    · rw [c] at e'
      have : (w.alloc (.cells #[] 5)).heap.size = i := by simpa using e'
      rw [← this]
      exact HE.out.size

set_option maxHeartbeats 1000000 in
theorem read_any (X : Nat → Prop) (db mb sz u : Nat) (pw lf : Int) (F : List Fl) (s : List UInt8) (w : World) (h : Dv w X db mb sz u pw lf F) (hs : s.length ≤ 9223372036854775807) (hfl : ∀ f ∈ F, f.l.length ≤ 1000000000) :
    Calls Try.prog 12 #[.pointer (some ⟨db, 0, none⟩), .string (bs s)] w fun e w' => ∃ v', e = .returned (.tuple #[v', .bool (lookF F s).isSome]) ∧ FB w' v' (bytesAt F s) ∧ (∀ g, v'.ownBlock = some g → w.heap.size ≤ g) ∧ Below w.heap.size w w' := by
  obtain ⟨⟨c0, c1, c2, c3, c4⟩, fz⟩ := h.cells
  have hlk := h.look (s := s) hs
  cases hF : lookF F s with
  | some f =>
    obtain ⟨hf, hnm⟩ := lookF_some hF
    obtain ⟨b0, b1, bz, n1, n2, n3⟩ := h.file hf
    rw [ptrF_some hF] at hlk
    have hL : bytesAt F s = f.l := by unfold bytesAt; rw [hF]
    have hcl := clone_any f.v f.l w (h.fs.row f hf) (by have := hfl f hf; omega)
    obtain ⟨fa, fc, ev, -, -, -⟩ := (h.fs.row f hf).form
    rw [hL]
    rw [ev] at b0 hcl
    clear hL h hF hf hnm ev n1 n2 n3 hfl
    generalize f.l.length = m at *
    generalize f.b = fb at *
    generalize bs s = S at *
    go_enter Try.func12, Try.ntmps12
    go_wp2_with fail
    refine hcl.mono ?_
    rintro e w' ⟨v', rfl, q1, q2, q3⟩
    have HQ : Hid (_ ∧ _ ∧ _) := ⟨q1, q2, q3⟩
    clear q1 q2 q3 hcl
    go_wp2
    go_ret2
    exact ⟨_, rfl, HQ.out⟩
  | none =>
    rw [ptrF_none hF] at hlk
    have hL : bytesAt F s = [] := by unfold bytesAt; rw [hF]
    rw [hL]
    clear h hL hF
    generalize bs s = S at *
    go_enter Try.func12, Try.ntmps12
    go_wp2
    go_ret2
    exact ⟨_, rfl, FB.nil _, fun g e => (by cases e), Below.refl _ _⟩

set_option maxHeartbeats 1000000 in
theorem fast_any (X : Nat → Prop) (db mb sz u : Nat) (pw lf : Int) (F : List Fl) (s : List UInt8) (w : World) (h : Dv w X db mb sz u pw lf F) (hs : s.length ≤ 9223372036854775807) :
    Calls Try.prog 13 #[.pointer (some ⟨db, 0, none⟩), .string (bs s)] w fun e w' => e = .returned (.int .i64 (fastAt F s : Nat)) ∧ w' = w := by
  obtain ⟨⟨c0, c1, c2, c3, c4⟩, fz⟩ := h.cells
  have hlk := h.look (s := s) hs
  cases hF : lookF F s with
  | some f =>
    obtain ⟨hf, hnm⟩ := lookF_some hF
    obtain ⟨b0, b1, bz, n1, n2, n3⟩ := h.file hf
    rw [ptrF_some hF] at hlk
    have hL : fastAt F s = f.fa := by unfold fastAt; rw [hF]
    rw [hL]
    clear hL h hF hf hnm n1 n2 n3 b0
    generalize f.fa = m at *
    generalize f.b = fb at *
    generalize bs s = S at *
    go_enter Try.func13, Try.ntmps13
    go_wp2
    go_ret
    exact ⟨rfl, rfl⟩
  | none =>
    rw [ptrF_none hF] at hlk
    have hL : fastAt F s = 0 := by unfold fastAt; rw [hF]
    rw [hL]
    clear h hL hF
    generalize bs s = S at *
    go_enter Try.func13, Try.ntmps13
    go_wp2
    go_ret
    exact ⟨rfl, rfl⟩

theorem used_any (X : Nat → Prop) (db mb sz u : Nat) (pw lf : Int) (F : List Fl) (w : World) (h : Dv w X db mb sz u pw lf F) :
    Calls Try.prog 11 #[.pointer (some ⟨db, 0, none⟩)] w fun e w' => e = .returned (.int .i64 (u : Nat)) ∧ w' = w := by
  obtain ⟨⟨c0, c1, c2, c3, c4⟩, fz⟩ := h.cells
  clear h
  go_enter Try.func11, Try.ntmps11
  go_wp2
  go_ret
  exact ⟨rfl, rfl⟩

theorem sorts_any (m : Nat) : AnyZ.SortsIn Try.prog Try.sortedL_ren Fence.wide m :=
  ⟨fun blk off cap ss W hH hblk hsz => callsIn_wide.2 (AnyM.slices_Sort_string Try.sortL blk off cap ss W hH hblk hsz),
   fun p cap W => callsIn_wide.2 (AnyM.slices_Sort_string_none Try.sortL p cap W)⟩

set_option maxHeartbeats 1000000 in
theorem names_any (X : Nat → Prop) (db mb sz u : Nat) (pw lf : Int) (F : List Fl) (w : World) (h : Dv w X db mb sz u pw lf F) (hl : F.length ≤ 1000000000) :
    Calls Try.prog 28 #[.pointer (some ⟨db, 0, none⟩)] w fun e w' => ∃ v, e = .returned v ∧ w'.ownsRow w.heap.size 9 1 v F.length ((F.map Fl.nm).map encStr) ∧ Below w.heap.size w w' := by
  obtain ⟨⟨c0, c1, c2, c3, c4⟩, fz⟩ := h.cells
  have hbl := h.fs.map.lt
  have hsz : Maps.size (DF F) ≤ 1000000000 := by rw [df_size]; exact hl
  have hmax : Maps.size (DF F) ≤ maxLen := by unfold maxLen; omega
  have HS : Hid (CallsIn Fence.wide 5 Try.prog 44 #[.func (.func 50) #[] #[.pointer (some ⟨w.heap.size, 0, none⟩)]] (w.alloc (.cells #[.map (some mb)] 56)) fun e w' => ∃ (v : Value) (ss : List (List UInt8)), e = .returned v ∧ ss.Perm (strKeys (DF F)) ∧
      w'.ownsRow (w.alloc (.cells #[.map (some mb)] 56)).heap.size 9 1 v ss.length ((ss.mergeSort (fun x y => decide (x ≤ y))).map encStr) ∧ (v = .slice none 0 0 ↔ ss = []) ∧ Below (w.alloc (.cells #[.map (some mb)] 56)).heap.size (w.alloc (.cells #[.map (some mb)] 56)) w') := by
    have hseq : SeqGives Fence.wide 2 Try.prog 50 #[.pointer (some ⟨w.heap.size, 0, none⟩)] encStr (fun ss => ss.Perm (strKeys (DF F))) (Maps.size (DF F)) (w.alloc (.cells #[.map (some mb)] 56)) :=
      AnyZ.keys_gives (ρ := Try.keysL_ren) { Try.keysL with } Fence.wide _ trivial rfl (by omega) w.heap.size mb F.length (DF F) _ (by simp) (by simp) (own_stay h.fs.map (((Below.refl _ _).alloc (Nat.le_refl _) _).block mb hbl))
    exact AnyZ.sorted_in Try.sortedL Fence.wide 5 trivial trivial trivial trivial rfl (by omega) (sorts_any _) (enters_of Try.func49 (by kernel_rfl) rfl) 50 #[.pointer (some ⟨w.heap.size, 0, none⟩)] trivial (enters_of Try.func50 (by kernel_rfl) rfl) _ _ hmax (by omega) _ hseq
  have HK : Hid (∀ mb W, CallsIn Fence.wide 5 Try.prog 45 #[.map mb] W fun e w' => e = .returned (.func (.func 50) #[] #[.pointer (some ⟨W.heap.size, 0, none⟩)]) ∧ w' = W.alloc (.cells #[.map mb] 56)) := fun mb W => AnyZ.keys_in Try.keysL Fence.wide 5 trivial rfl mb W
  have HO := hide_p h.fs.ord
  have HL : Hid (∀ ss : List (List UInt8), ss.Perm (strKeys (DF F)) → ss.length = F.length) := fun ss hp => by rw [hp.length_eq, df_keys, List.length_map]
  clear h hbl hsz hmax hl
  refine (callsIn_wide (n := 6)).1 ?_
  have hfK : Fence.wide.fn 45 := trivial
  have hfS : Fence.wide.fn 44 := trivial
  refine callsIn_of_wp Try.func28 rfl trivial ?_ rfl
  have cS := HS.out
  have cK := HK.out
  clear HS HK
  simp only [Try.ntmps28, List.size_toArray, List.length_cons, List.length_nil, Nat.reduceAdd, Nat.reduceSub, Array.replicate_succ, Array.replicate_zero, List.push_toArray, List.append_toArray, List.nil_append, List.cons_append]
  gi_wp2_with (first
    | (gi_at_call 45; refine (cK _ _).mono ?_; rintro e w' ⟨rfl, rfl⟩)
    | (gi_at_call 44; refine cS.mono ?_; rintro e w' ⟨v, ss, rfl, hS, hrow, hnil, hb⟩))
  go_ret
  have e1 := HL.out ss hS
  have e2 := names_sorted HO.out hS
  rw [e1] at hrow
  rw [e2] at hrow
  exact ⟨v, rfl, ownsRow_base_a hrow (by simp), ((Below.refl _ w).alloc (Nat.le_refl _) _).trans (hb.mono (by simp))⟩

end Go.Proofs.Ytgkgflkcnigeaaa
