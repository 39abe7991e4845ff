/-
  Layer 20: the landed disk: Append, Sync.
-/
import Derived.Test.YtgkgflkcnigeaaaDkOps
namespace Go.Proofs.Ytgkgflkcnigeaaa
set_option maxRecDepth 100000
open Go.RowKit Txt Go.Maps Dk

namespace Dk
theorem dr_below (w : World) (n : Nat) : Below w.heap.size w (w.drewN n) := ⟨rfl, rfl, rfl, Nat.le_refl _, fun _ _ => rfl⟩
theorem refuse_zero {s : List UInt8} {n sz u : Nat} (h : refuseC s n sz u = 0) : nmB s = true ∧ (n : Int) ≤ sz - u := by
  unfold refuseC at h
  split at h
  · cases h
  · rename_i c
    split at h
    · cases h
    · rename_i d
      exact ⟨by simpa using c, by omega⟩
theorem nmB_len {s : List UInt8} (h : nmB s = true) : s.length ≤ 32 := by
  unfold nmB at h
  simp at h
  omega
theorem nxt_mono {X : Nat → Prop} {a b c : World} (h1 : a.heap.size ≤ b.heap.size) (k : Nat) (h : nxt X b c k) : nxt X a c k := by
  rcases h with h | h
  · exact Or.inl h
  · exact Or.inr ⟨by omega, h.2⟩
/-- Behind a call's counting, a disk with another power. -/
theorem Dsk.pw {w w1 : World} {X : Nat → Prop} {db : Nat} {S : Ps} (h : Dsk w X db S) {mb : Nat} {F : List Fl} (eF : F.map Fl.pl = S.P) {r pw' lf' : Int} (hst : stepC S.pw S.lf = (r, pw', lf')) (hD : Dv w1 X db mb S.sz (lenP S.P) pw' lf' F) : Dsk w1 (nxt X w w1) db (S.pow pw' lf') := by
  obtain ⟨-, h2, h3, h4⟩ := step_pow hst h.pow h.lf0 h.lf1
  exact ⟨⟨mb, F, eF, hD.grow (fun i hi => Or.inl hi) (fun k hk' => by
    rcases hk' with c | c
    · exact hD.xlt k c
    · exact c.2)⟩, h.room, h.size, h2, h3, h4⟩
end Dk

set_option maxHeartbeats 2000000 in
theorem append_any (X : Nat → Prop) (db : Nat) (S : Ps) (s : List UInt8) (v : Value) (l : List Nat) (w : World) (h : Dsk w X db S) (hs : s.length ≤ 9223372036854775807) (hv : BR w v l) (hvx : ∀ w', Wx X w w' → BR w' v l) (hl : S.P.length ≤ 1000000000) :
    Calls Try.prog 14 #[.pointer (some ⟨db, 0, none⟩), .string (bs s), v] w fun e w' => e = .returned (.int .i64 (appP S s l).1) ∧ Dsk w' (nxt X w w') db (appP S s l).2 ∧ Wx X w w' := by
  obtain ⟨mb, F, eF, hD⟩ := h.lies
  have hcall := call_any X db mb S.sz (lenP S.P) S.pw S.lf F w hD h.lf0 h.lf1
  obtain ⟨va, vc, rfl, -⟩ := br_src hv
  have hrm := h.room
  have hsz := h.size
  have hFl : F.length ≤ 1000000000 := by rw [← eF, List.length_map] at hl; exact hl
  have HX : Hid (∀ w1, Wx (fun i => i = db) w w1 → Wx X w w1) := fun w1 k => k.more fun i hi => Or.inl (by rw [hi]; exact hD.xd)
  have HP : Hid (∀ r pw' lf' w1, stepC S.pw S.lf = (r, pw', lf') → Dv w1 X db mb S.sz (lenP S.P) pw' lf' F → Wx (fun i => i = db) w w1 → Dsk w1 (nxt X w w1) db (S.pow pw' lf')) := fun r pw' lf' w1 h1 h2 _ => h.pw eF h1 h2
  have HS : Hid (∀ r pw' lf', stepC S.pw S.lf = (r, pw', lf') → (r = 0 ∨ r = 1 ∨ r = 2)) := fun r pw' lf' hst => (step_pow hst h.pow h.lf0 h.lf1).1
  have HS2 : Hid (∀ r pw' lf', stepC S.pw S.lf = (r, pw', lf') → (pw' = 0 ∨ pw' = 1 ∨ pw' = 2) ∧ 0 ≤ lf' ∧ lf' ≤ 9223372036854775807) := fun r pw' lf' hst => (step_pow hst h.pow h.lf0 h.lf1).2
  have HR : Hid (∀ pw' lf' w1, Dv w1 X db mb S.sz (lenP S.P) pw' lf' F → Calls Try.prog 32 #[.pointer (some ⟨db, 0, none⟩), .string (bs s), .slice va l.length vc] w1 fun e w' => e = .returned (.int .i64 (refuseC s l.length S.sz (lenP S.P))) ∧ ∃ k, w' = w1.drewN k) := fun pw' lf' w1 hD1 => refusal_any X db mb S.sz (lenP S.P) pw' lf' F s va l.length vc w1 hD1 hrm hsz hs
  have HL : Hid (refuseC s l.length S.sz (lenP S.P) = 0 → ∀ pw' lf' w1, Dv w1 X db mb S.sz (lenP S.P) pw' lf' F → Wx X w w1 → (pw' = 0 ∨ pw' = 1 ∨ pw' = 2) ∧ 0 ≤ lf' ∧ lf' ≤ 9223372036854775807 → Calls Try.prog 33 #[.pointer (some ⟨db, 0, none⟩), .string (bs s), .slice va l.length vc] w1 fun e w' => e = .returned (.tuple #[]) ∧ Dsk w' (nxt X w w') db { S.pow pw' lf' with P := layP S.P s l } ∧ Wx X w w') := fun h0 pw' lf' w1 hD1 k hp => by
    obtain ⟨hnb, hle⟩ := refuse_zero h0
    have hlen := lenP_lay (P := S.P) (s := s) l (by rw [← eF]; exact hD.fs.ordP)
    refine (lay_any X db mb S.sz (lenP S.P) pw' lf' F s _ l w1 hD1 (nmB_len hnb) (hvx w1 k) (fun w' k' => hvx w' (k.trans k' fun i hi => Or.inl hi)) hFl (by omega) (h.len eF)).mono ?_
    rintro e w' ⟨he, F', hF', hD', k'⟩
    rw [eF] at hF'
    rw [← hlen] at hD'
    exact ⟨he, ⟨⟨mb, F', hF', hD'.grow (nxt_mono k.size) (nxt_lt hD.xlt (Nat.le_trans k.size k'.size))⟩, by show lenP (layP S.P s l) ≤ _; rw [hlen]; show _ ≤ S.sz; omega, hsz, hp.1, hp.2.1, hp.2.2⟩, k.trans k' fun i hi => Or.inl hi⟩
  have HA : Hid (appP S s l = match stepC S.pw S.lf with
    | (r, pw, lf) => if r = 2 then (200, S.pow pw lf) else
        if refuseC s l.length S.sz (lenP S.P) = 0 then (if r = 1 then 200 else 0, { S.pow pw lf with P := layP S.P s l })
        else (if r = 1 then 200 else refuseC s l.length S.sz (lenP S.P), S.pow pw lf)) := rfl
  generalize appP S s l = A at *
  generalize refuseC s l.length S.sz (lenP S.P) = R at *
  generalize bs s = SS at *
  clear h hD hv hvx hl hrm hsz hs hFl
  go_enter Try.func14, Try.ntmps14
  go_wp2_with fail
  refine hcall.mono ?_
  rintro e w1 ⟨r, pw', lf', hst, rfl, hD1, hk1⟩
  have hr := HS.out r pw' lf' hst
  have HA2 := hide_p HA.out
  have hA2 := HA2.out
  rw [hst] at hA2
  clear HA HA2 hcall
  rcases hr with rfl | rfl | rfl
  · simp only [] at hA2
    rw [if_neg (by decide)] at hA2
    have HST := hide_p hst
    have hrf := HR.out pw' lf' w1 hD1
    have HD1 := hide_p hD1
    have HK1 := hide_p hk1
    clear hst hD1 hk1 HR
    by_cases c : R = 0
    · subst c
      rw [if_pos rfl] at hA2
      subst hA2
      go_wp2_with fail
      refine hrf.mono ?_
      rintro e w2 ⟨rfl, k, rfl⟩
      have hly := HL.out (by first | rfl | trivial) pw' lf' (w1.drewN k) (HD1.out.below (dr_below _ _)) (HX.out _ (HK1.out.trans (Wx.of_below _ (dr_below _ _)) fun i hi => Or.inl hi)) (HS2.out _ _ _ HST.out)
      clear hrf HL
      go_wp2_with fail
      refine hly.mono ?_
      rintro e w3 ⟨rfl, hd, hk⟩
      have HQ : Hid (_ ∧ _) := ⟨hd, hk⟩
      clear hd hk hly
      go_wp2
      go_ret
      exact ⟨rfl, HQ.out⟩
    · rw [if_neg c] at hA2
      subst hA2
      have c' : (R == 0) = false := by simpa using c
      go_wp2_with fail
      refine hrf.mono ?_
      rintro e w2 ⟨rfl, k, rfl⟩
      have hq := HP.out _ _ _ w1 HST.out HD1.out HK1.out
      have HQ : Hid (Dsk (w1.drewN k) (nxt X w (w1.drewN k)) db (S.pow pw' lf') ∧ Wx X w (w1.drewN k)) := ⟨(hq.below (dr_below _ _)).grow (fun i hi => hi) (fun i hi => by
          rcases hi with c | c
          · exact HD1.out.xlt i c
          · exact c.2), HX.out _ (HK1.out.trans (Wx.of_below _ (dr_below _ _)) fun i hi => Or.inl hi)⟩
      clear hq hrf HL
      go_wp2
      go_ret
      exact ⟨rfl, HQ.out⟩
  · simp only [] at hA2
    rw [if_neg (by decide)] at hA2
    have HST := hide_p hst
    have hrf := HR.out pw' lf' w1 hD1
    have HD1 := hide_p hD1
    have HK1 := hide_p hk1
    clear hst hD1 hk1 HR
    by_cases c : R = 0
    · subst c
      rw [if_pos rfl] at hA2
      subst hA2
      go_wp2_with fail
      refine hrf.mono ?_
      rintro e w2 ⟨rfl, k, rfl⟩
      have hly := HL.out (by first | rfl | trivial) pw' lf' (w1.drewN k) (HD1.out.below (dr_below _ _)) (HX.out _ (HK1.out.trans (Wx.of_below _ (dr_below _ _)) fun i hi => Or.inl hi)) (HS2.out _ _ _ HST.out)
      clear hrf HL
      go_wp2_with fail
      refine hly.mono ?_
      rintro e w3 ⟨rfl, hd, hk⟩
      have HQ : Hid (_ ∧ _) := ⟨hd, hk⟩
      clear hd hk hly
      go_wp2
      go_ret
      exact ⟨rfl, HQ.out⟩
    · rw [if_neg c] at hA2
      subst hA2
      have c' : (R == 0) = false := by simpa using c
      go_wp2_with fail
      refine hrf.mono ?_
      rintro e w2 ⟨rfl, k, rfl⟩
      have hq := HP.out _ _ _ w1 HST.out HD1.out HK1.out
      have HQ : Hid (Dsk (w1.drewN k) (nxt X w (w1.drewN k)) db (S.pow pw' lf') ∧ Wx X w (w1.drewN k)) := ⟨(hq.below (dr_below _ _)).grow (fun i hi => hi) (fun i hi => by
          rcases hi with c | c
          · exact HD1.out.xlt i c
          · exact c.2), HX.out _ (HK1.out.trans (Wx.of_below _ (dr_below _ _)) fun i hi => Or.inl hi)⟩
      clear hq hrf HL
      go_wp2
      go_ret
      exact ⟨rfl, HQ.out⟩
  · simp only [if_true] at hA2
    subst hA2
    have HQ : Hid (Dsk w1 (nxt X w w1) db (S.pow pw' lf') ∧ Wx X w w1) := ⟨HP.out _ _ _ w1 hst hD1 hk1, HX.out _ hk1⟩
    clear hst hD1 hk1 HL HR
    go_wp2
    go_ret
    exact ⟨rfl, HQ.out⟩

end Go.Proofs.Ytgkgflkcnigeaaa
