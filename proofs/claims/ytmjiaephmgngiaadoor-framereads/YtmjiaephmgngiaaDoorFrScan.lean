/-
  Both Scans, walked.
-/
import Derived.Test.YtmjiaephmgngiaaDoorFrRow
namespace Go.Proofs.YtmjiaephmgngiaaDoor
open Go.RowKit Crc

/-- What Scan tells: what was framed, one behind the other, and how far that is. -/
def sc : Nat → List Nat → List (List Nat) × Nat
  | 0, _ => ([], 0)
  | f + 1, l => if frsE l = 0 then (frsB l :: (sc f (l.drop (frsN l))).1, frsN l + (sc f (l.drop (frsN l))).2) else ([], 0)
theorem frsN_le {l : List Nat} (h : frsE l = 0) : 8 ≤ frsN l ∧ frsN l ≤ l.length := by
  have e : frsN l = 8 + w4 l := by unfold frsN; rw [if_pos h]
  unfold frsE at h
  split at h
  · cases h
  · split at h
    · cases h
    · split at h
      · cases h
      · omega
/-- The scan, so far. -/
def Sc (l : List Nat) (at' : Nat) (ls : List (List Nat)) : Prop :=
  at' ≤ l.length ∧ ls.length * 8 ≤ at' ∧ ∃ f, l.length - at' < f ∧ ls ++ (sc f (l.drop at')).1 = (sc (l.length + 1) l).1 ∧ at' + (sc f (l.drop at')).2 = (sc (l.length + 1) l).2
theorem Sc.start (l : List Nat) : Sc l 0 [] := ⟨Nat.zero_le _, Nat.zero_le _, l.length + 1, by omega, by simp, by simp⟩
theorem Sc.stop {l : List Nat} {at' : Nat} {ls : List (List Nat)} (h : Sc l at' ls) (he : frsE (l.drop at') ≠ 0) : ls = (sc (l.length + 1) l).1 ∧ at' = (sc (l.length + 1) l).2 := by
  obtain ⟨_, _, f, hf, h1, h2⟩ := h
  match f, hf with
  | f + 1, _ =>
    have e : sc (f + 1) (l.drop at') = ([], 0) := by unfold sc; rw [if_neg he]
    rw [e] at h1 h2
    exact ⟨by simpa using h1, by simpa using h2⟩
theorem Sc.step {l : List Nat} {at' : Nat} {ls : List (List Nat)} (h : Sc l at' ls) (he : frsE (l.drop at') = 0) : Sc l (at' + frsN (l.drop at')) (ls ++ [frsB (l.drop at')]) := by
  obtain ⟨h0, h00, f, hf, h1, h2⟩ := h
  have hn := frsN_le he
  rw [List.length_drop] at hn
  match f, hf with
  | f + 1, hf =>
    have e : sc (f + 1) (l.drop at') = (frsB (l.drop at') :: (sc f ((l.drop at').drop (frsN (l.drop at')))).1, frsN (l.drop at') + (sc f ((l.drop at').drop (frsN (l.drop at')))).2) := by rw [sc, if_pos he]
    rw [e, List.drop_drop] at h1 h2
    refine ⟨by omega, by rw [List.length_append, List.length_singleton]; omega, f, by omega, ?_, ?_⟩
    · rw [List.append_assoc]; exact h1
    · rw [Nat.add_assoc]; exact h2

set_option maxRecDepth 100000 in
set_option maxHeartbeats 3200000 in
theorem scan_any (v : Value) (l : List Nat) (w : World) (h : BR w v l) (hl : l.length ≤ 1048576) (hT : Tb w) (h0 : 0 < w.heap.size) :
    Calls Tryd.prog 16 #[v] w fun e w' => ∃ v', e = .returned (.tuple #[v', .int .i64 ((sc (l.length + 1) l).2 : Nat)]) ∧ RW w' w.heap.size v' (sc (l.length + 1) l).1 ∧ Below w.heap.size w w' := by
  have HR : Hid (BR w v l) := h
  obtain ⟨s1, a, cap, rfl, h3, h4, h5⟩ := h
  clear h5 s1
  unfold maxLen at h4
  have HQ0 : Hid (Sc l 0 []) := Sc.start l
  obtain ⟨R1, hR1⟩ : ∃ R1, R1 = (sc (l.length + 1) l).1 := ⟨_, rfl⟩
  obtain ⟨R2, hR2⟩ : ∃ R2, R2 = (sc (l.length + 1) l).2 := ⟨_, rfl⟩
  have HEnd : Hid (∀ at' ls, Sc l at' ls → frsE (l.drop at') ≠ 0 → ls = R1 ∧ at' = R2) := fun at' ls h he => by rw [hR1, hR2]; exact h.stop he
  rw [← hR1, ← hR2]
  obtain ⟨n, hn⟩ : ∃ n, n = l.length := ⟨_, rfl⟩
  have HN : Hid (n = l.length) := hn
  rw [← hn] at h3 HR hl ⊢
  clear hn hR1 hR2
  have HT : Hid (Tb w) := hT
  clear hT
  go_enter Tryd.func16, Tryd.ntmps16
  go_wp2_with fail
  go_loopw [4, 5] (fun t4 t5 wr => ∃ (at' : Nat) (ls : List (List Nat)), at' ≤ n ∧ t5 = .int .i64 at' ∧ Hid (Sc l at' ls) ∧ Hid (RW wr w.heap.size t4 ls) ∧ Hid (Below w.heap.size w wr)) (fun _ t5 _ => n - (intOf t5).toNat)
  case atStart => exact ⟨0, [], Nat.zero_le _, rfl, HQ0, RW_nil _ _, Below.refl _ _⟩
  case round =>
    obtain ⟨at', ls, hat, rfl, HS, HRW, HB⟩ := hrel
    have i1 : (at' : Int) ≤ (n : Int) := by omega
    have i2 : (0 : Int) ≤ (at' : Int) := by omega
    have i3 : (at' : Int) ≤ (cap : Int) := by omega
    obtain ⟨a2, hsl⟩ : ∃ a2, (if cap = at' then a else Option.map (fun x => x.add at') a) = a2 := ⟨_, rfl⟩
    have HRd : Hid (BR wr (.slice a2 (n - at') (cap - at')) (l.drop at')) := by
      have := (HR.out.cut (lo := at') (hi := n) (by omega) (by have := HN.out; omega)).below HB.out (Nat.le_refl _)
      rw [HN.out, List.take_length, ← HN.out] at this
      unfold sliced at this
      rw [Nat.mul_one, hsl] at this
      exact this
    have hz : w.heap.size ≤ wr.heap.size := HB.out.size
    have hF := first_any _ _ wr HRd.out (HT.out.below HB.out h0) (by omega)
    have HSt : Hid (frsE (l.drop at') = 0 → Sc l (at' + frsN (l.drop at')) (ls ++ [frsB (l.drop at')]) ∧ 8 ≤ frsN (l.drop at') ∧ at' + frsN (l.drop at') ≤ n) := fun he => ⟨HS.out.step he, (frsN_le he).1, by have := (frsN_le he).2; rw [List.length_drop] at this; have := HN.out; omega⟩
    have HSp : Hid (frsE (l.drop at') ≠ 0 → ls = R1 ∧ at' = R2) := fun he => HEnd.out _ _ HS.out he
    have HLs : Hid (ls.length ≤ 1048576) := by show _ ≤ _; have := HS.out.1; have := HS.out.2.1; have := HN.out; omega
    unfold FA at hF
    generalize frsE (l.drop at') = E at *
    generalize frsN (l.drop at') = N at *
    generalize frsB (l.drop at') = D at *
    go_wp2_with fail
    refine hF.mono ?_
    rintro e w6 ⟨v6, rfl, ho6, hb6⟩
    obtain ⟨p6, m6, c6, rfl⟩ : ∃ p6 m6 c6, v6 = .slice p6 m6 c6 := by obtain ⟨_, p6, c6, e6, _⟩ := ho6.br; exact ⟨p6, _, c6, e6⟩
    have hz6 := hb6.size
    have HB6 : Hid (Below w.heap.size w w6) := HB.out.trans (hb6.mono hz)
    have HW6 : Hid (RW w6 w.heap.size u4 ls) := HRW.out.below hb6 (Nat.le_refl _)
    by_cases hE : E = 0
    · subst hE
      obtain ⟨hSc, hN1, hN2⟩ := HSt.out rfl
      have hfar := ho6.far HRW.out
      have HSc : Hid (Sc l (at' + N) (ls ++ [D])) := hSc
      clear HSt HSp hF hSc ho6 hb6
      go_wp2_with (at_builtin; refine wpList_append_row (w := w6) rfl _ _ rfl w.heap.size u4 (.slice p6 m6 c6) ls D rfl rfl HW6.out hfar HLs.out (by omega) ?_)
      intro v7 w7 hR7 hb7
      have HR7 : Hid (RW w7 w.heap.size v7 (ls ++ [D]) ∧ Below w.heap.size w w7) := ⟨hR7, HB6.out.trans hb7⟩
      clear hR7 hb7 hfar
      go_wp2
      go_round
      case rel => exact ⟨at' + N, ls ++ [D], hN2, by go_num, HSc, HR7.out.1, HR7.out.2⟩
      case measure => simp [intOf]; omega
    · obtain ⟨e1, e2⟩ := HSp.out hE
      have hEb : ((E : Int) != 0) = true := by simp; omega
      have HQ : Hid (RW w6 w.heap.size u4 R1 ∧ Below w.heap.size w w6) := ⟨by rw [← e1]; exact HW6.out, HB6.out⟩
      subst e2
      clear HSt HSp hF e1 ho6 hb6
      go_wp2
      go_ret2
      exact ⟨_, rfl, HQ.out⟩

set_option maxRecDepth 100000 in
set_option maxHeartbeats 3200000 in
theorem refScan_any (v : Value) (l : List Nat) (w : World) (h : BR w v l) (hl : l.length ≤ 1048576) :
    Calls Tryd.prog 17 #[v] w fun e w' => ∃ v', e = .returned (.tuple #[v', .int .i64 ((sc (l.length + 1) l).2 : Nat)]) ∧ RW w' w.heap.size v' (sc (l.length + 1) l).1 ∧ Below w.heap.size w w' := by
  have HR : Hid (BR w v l) := h
  obtain ⟨s1, a, cap, rfl, h3, h4, h5⟩ := h
  clear h5 s1
  unfold maxLen at h4
  have HQ0 : Hid (Sc l 0 []) := Sc.start l
  obtain ⟨R1, hR1⟩ : ∃ R1, R1 = (sc (l.length + 1) l).1 := ⟨_, rfl⟩
  obtain ⟨R2, hR2⟩ : ∃ R2, R2 = (sc (l.length + 1) l).2 := ⟨_, rfl⟩
  have HEnd : Hid (∀ at' ls, Sc l at' ls → frsE (l.drop at') ≠ 0 → ls = R1 ∧ at' = R2) := fun at' ls h he => by rw [hR1, hR2]; exact h.stop he
  rw [← hR1, ← hR2]
  obtain ⟨n, hn⟩ : ∃ n, n = l.length := ⟨_, rfl⟩
  have HN : Hid (n = l.length) := hn
  rw [← hn] at h3 HR hl ⊢
  clear hn hR1 hR2
  go_enter Tryd.func17, Tryd.ntmps17
  go_wp2_with fail
  go_loopw [4, 5] (fun t4 t5 wr => ∃ (at' : Nat) (ls : List (List Nat)), at' ≤ n ∧ t5 = .int .i64 at' ∧ Hid (Sc l at' ls) ∧ Hid (RW wr w.heap.size t4 ls) ∧ Hid (Below w.heap.size w wr)) (fun _ t5 _ => n - (intOf t5).toNat)
  case atStart => exact ⟨0, [], Nat.zero_le _, rfl, HQ0, (RW_empty w).base (Nat.le_refl _), (Below.refl _ _).alloc (Nat.le_refl _) _⟩
  case round =>
    obtain ⟨at', ls, hat, rfl, HS, HRW, HB⟩ := hrel
    have i1 : (at' : Int) ≤ (n : Int) := by omega
    have i2 : (0 : Int) ≤ (at' : Int) := by omega
    have i3 : (at' : Int) ≤ (cap : Int) := by omega
    obtain ⟨a2, hsl⟩ : ∃ a2, (if cap = at' then a else Option.map (fun x => x.add at') a) = a2 := ⟨_, rfl⟩
    have HRd : Hid (BR wr (.slice a2 (n - at') (cap - at')) (l.drop at')) := by
      have := (HR.out.cut (lo := at') (hi := n) (by omega) (by have := HN.out; omega)).below HB.out (Nat.le_refl _)
      rw [HN.out, List.take_length, ← HN.out] at this
      unfold sliced at this
      rw [Nat.mul_one, hsl] at this
      exact this
    have hz : w.heap.size ≤ wr.heap.size := HB.out.size
    have hF := refFirst_any _ _ wr HRd.out
    have HSt : Hid (frsE (l.drop at') = 0 → Sc l (at' + frsN (l.drop at')) (ls ++ [frsB (l.drop at')]) ∧ 8 ≤ frsN (l.drop at') ∧ at' + frsN (l.drop at') ≤ n) := fun he => ⟨HS.out.step he, (frsN_le he).1, by have := (frsN_le he).2; rw [List.length_drop] at this; have := HN.out; omega⟩
    have HSp : Hid (frsE (l.drop at') ≠ 0 → ls = R1 ∧ at' = R2) := fun he => HEnd.out _ _ HS.out he
    have HLs : Hid (ls.length ≤ 1048576) := by show _ ≤ _; have := HS.out.1; have := HS.out.2.1; have := HN.out; omega
    unfold FA at hF
    generalize frsE (l.drop at') = E at *
    generalize frsN (l.drop at') = N at *
    generalize frsB (l.drop at') = D at *
    go_wp2_with fail
    refine hF.mono ?_
    rintro e w6 ⟨v6, rfl, ho6, hb6⟩
    obtain ⟨p6, m6, c6, rfl⟩ : ∃ p6 m6 c6, v6 = .slice p6 m6 c6 := by obtain ⟨_, p6, c6, e6, _⟩ := ho6.br; exact ⟨p6, _, c6, e6⟩
    have hz6 := hb6.size
    have HB6 : Hid (Below w.heap.size w w6) := HB.out.trans (hb6.mono hz)
    have HW6 : Hid (RW w6 w.heap.size u4 ls) := HRW.out.below hb6 (Nat.le_refl _)
    by_cases hE : E = 0
    · subst hE
      obtain ⟨hSc, hN1, hN2⟩ := HSt.out rfl
      have hfar := ho6.far HRW.out
      have HSc : Hid (Sc l (at' + N) (ls ++ [D])) := hSc
      clear HSt HSp hF hSc ho6 hb6
      go_wp2_with (at_builtin; refine wpList_append_row (w := w6) rfl _ _ rfl w.heap.size u4 (.slice p6 m6 c6) ls D rfl rfl HW6.out hfar HLs.out (by omega) ?_)
      intro v7 w7 hR7 hb7
      have HR7 : Hid (RW w7 w.heap.size v7 (ls ++ [D]) ∧ Below w.heap.size w w7) := ⟨hR7, HB6.out.trans hb7⟩
      clear hR7 hb7 hfar
      go_wp2
      go_round
      case rel => exact ⟨at' + N, ls ++ [D], hN2, by go_num, HSc, HR7.out.1, HR7.out.2⟩
      case measure => simp [intOf]; omega
    · obtain ⟨e1, e2⟩ := HSp.out hE
      have hEb : ((E : Int) != 0) = true := by simp; omega
      have HQ : Hid (RW w6 w.heap.size u4 R1 ∧ Below w.heap.size w w6) := ⟨by rw [← e1]; exact HW6.out, HB6.out⟩
      subst e2
      clear HSt HSp hF e1 ho6 hb6
      go_wp2
      go_ret2
      exact ⟨_, rfl, HQ.out⟩

end Go.Proofs.YtmjiaephmgngiaaDoor
