/-
  Layer 20: the landed disk: Rename.
-/
import Derived.Test.YtgkgflkcnigeaaaDkSyn
namespace Go.Proofs.Ytgkgflkcnigeaaa
set_option maxRecDepth 100000
open Go.RowKit Txt Go.Maps Dk

namespace Dk
def renameP (S : Ps) (s t : List UInt8) : Int × Ps :=
  match stepC S.pw S.lf with
  | (r, pw, lf) => if r ≠ 0 then (200, S.pow pw lf) else
      if nmB t = false then (1, S.pow pw lf) else
      match lookP S.P s with
      | some f => (0, { S.pow pw lf with P := insP ⟨t, f.l, f.fa⟩ (dropP (dropP S.P s) t) })
      | none => (5, S.pow pw lf)
theorem ordP_drop {P : List Pl} (h : OrdP P) (s : List UInt8) : OrdP (dropP P s) := List.Pairwise.sublist List.filter_sublist h
theorem lookF_drop {F : List Fl} {s : List UInt8} {f : Fl} (h : f ∈ dropF F s) : f ∈ F := (mem_dropF.1 h).1
end Dk

set_option maxHeartbeats 2000000 in
theorem rename_any (X : Nat → Prop) (db : Nat) (S : Ps) (s t : List UInt8) (w : World) (h : Dsk w X db S) (hs : s.length ≤ 9223372036854775807) (ht : t.length ≤ 9223372036854775807) (hl : S.P.length ≤ 1000000000) :
    Calls Try.prog 18 #[.pointer (some ⟨db, 0, none⟩), .string (bs s), .string (bs t)] w fun e w' => e = .returned (.int .i64 (renameP S s t).1) ∧ Dsk w' (nxt X w w') db (renameP S s t).2 ∧ Wx X w w' := by
  obtain ⟨mb, F, eF, hD⟩ := h.lies
  have hcall := call_any X db mb S.sz (lenP S.P) S.pw S.lf F w hD h.lf0 h.lf1
  have hrm := h.room
  have hsz := h.size
  have hlk : lookP S.P s = (lookF F s).map Fl.pl := by rw [← eF, look_pl]
  have hord : OrdP S.P := by rw [← eF]; exact hD.fs.ordP
  have HX : Hid (∀ w1, Wx (fun i => i = db) w w1 → Wx X w w1) := fun w1 k => k.more fun i hi => Or.inl (by rw [hi]; exact hD.xd)
  have HP : Hid (∀ r pw' lf' w1, stepC S.pw S.lf = (r, pw', lf') → Dv w1 X db mb S.sz (lenP S.P) pw' lf' F → Wx (fun i => i = db) w w1 → Dsk w1 (nxt X w w1) db (S.pow pw' lf') ∧ Wx X w w1) := fun r pw' lf' w1 h1 h2 k => ⟨h.pw eF h1 h2, HX.out w1 k⟩
  have HS2 : Hid (∀ r pw' lf', stepC S.pw S.lf = (r, pw', lf') → (pw' = 0 ∨ pw' = 1 ∨ pw' = 2) ∧ 0 ≤ lf' ∧ lf' ≤ 9223372036854775807) := fun r pw' lf' hst => (step_pow hst h.pow h.lf0 h.lf1).2
  have HA : Hid (renameP S s t = match stepC S.pw S.lf with
    | (r, pw, lf) => if r ≠ 0 then (200, S.pow pw lf) else
        if nmB t = false then (1, S.pow pw lf) else
        match lookP S.P s with
        | some f => (0, { S.pow pw lf with P := insP ⟨t, f.l, f.fa⟩ (dropP (dropP S.P s) t) })
        | none => (5, S.pow pw lf)) := rfl
  generalize renameP S s t = A at *
  have hlenF := h.len eF
  have hFl : F.length ≤ 1000000000 := by rw [← eF, List.length_map] at hl; exact hl
  have HN : Hid (∀ w, Calls Try.prog 36 #[.string (bs t)] w fun e w' => e = .returned (.bool (nmB t)) ∧ w' = w) := fun w => isName_any t w ht
  clear h
  go_enter Try.func18, Try.ntmps18
  go_wp2_with fail
  refine hcall.mono ?_
  rintro e w1 ⟨r, pw', lf', hst, rfl, hD1, hk1⟩
  have hA2 := HA.out
  rw [hst] at hA2
  clear HA hcall
  have hp := HS2.out _ _ _ hst
  have hpw := hide_p (HP.out _ _ _ w1 hst hD1 hk1)
  clear hst
  by_cases hr : r = 0
  · subst hr
    simp only [] at hA2
    rw [if_neg (by decide)] at hA2
    have hN := HN.out w1
    cases hb : nmB t with
    | false =>
      rw [if_pos hb] at hA2
      subst hA2
      rw [hb] at hN
      clear hD1 hk1 hlk hb
      generalize bs s = SS at *
      generalize bs t = TT at *
      go_wp2_with fail
      refine hN.mono ?_
      rintro e w2 ⟨rfl, rfl⟩
      go_wp2
      go_ret
      exact ⟨rfl, hpw.out⟩
    | true =>
      rw [if_neg (by rw [hb]; decide), hlk] at hA2
      rw [hb] at hN
      obtain ⟨⟨c0, c1, c2, c3, c4⟩, fz⟩ := hD1.cells
      have hlu := hD1.look (s := s) hs
      cases hF : lookF F s with
      | none =>
        rw [hF] at hA2
        simp only [Option.map_none] at hA2
        subst hA2
        rw [ptrF_none hF] at hlu
        clear hD1 hk1 hlk hF
        generalize bs s = SS at *
        generalize bs t = TT at *
        go_wp2_with fail
        refine hN.mono ?_
        rintro e w2 ⟨rfl, rfl⟩
        go_wp2
        go_ret
        exact ⟨rfl, hpw.out⟩
      | some f =>
        rw [hF] at hA2
        simp only [Option.map_some] at hA2
        rw [ptrF_some hF] at hlu
        obtain ⟨hf, hnm⟩ := lookF_some hF
        obtain ⟨b0, b1, bz, n1, n2, n3⟩ := hD1.file hf
        have hno : f ∉ dropF F s := fun hm => (mem_dropF.1 hm).2 hnm
        have hne : ∀ g ∈ dropF (dropF F s) t, f.b ≠ g.b ∧ ∀ i, f.v.ownBlock = some i → g.v.ownBlock ≠ some i := fun g hg => by
          have hg1 := lookF_drop hg
          rcases one_of hD1.fs.one hf (lookF_drop hg1) with e | e
          · subst e; exact absurd hg1 hno
          · exact e
        have HKy : Hid (keyOf Try.prog 9 (.string (bs s)) = some (.string s)) := key_of hs
        have HM := hide_p hD1.fs.map
        have hla := lenAt_pl F s
        rw [eF] at hla
        have hln := lenP_drop (s := s) hord
        rw [hla] at hln
        have hla2 := lenAt_pl (dropF F s) t
        rw [drop_pl, eF] at hla2
        have hln2 := lenP_drop (s := t) (ordP_drop hord s)
        rw [hla2] at hln2
        have hlf : lenAt F s = f.l.length := by unfold lenAt; rw [hF]
        have HD1 : Hid (∀ w2 n, w2.ownsMap Try.prog 9 ptrR mb n ((DF F).del (.string s)) → w1.mapTurned w2 mb → Dv w2 X db mb S.sz (lenP S.P) pw' lf' (dropF F s) ∧ Wx (fun i => i = mb) w1 w2) := fun w2 n q1 q2 => hD1.del s q1 q2
        have HD2 : Hid (∀ w2, Dv w2 X db mb S.sz (lenP S.P) pw' lf' (dropF F s) → Calls Try.prog 37 #[.pointer (some ⟨db, 0, none⟩), .string (bs t)] w2 fun e w' => e = .returned (.tuple #[]) ∧ Dv w' X db mb S.sz (lenP S.P - lenAt (dropF F s) t) pw' lf' (dropF (dropF F s) t) ∧ Wx (fun i => i = db ∨ i = mb) w2 w') := fun w2 hd => drop_any X db mb S.sz (lenP S.P) pw' lf' (dropF F s) t w2 hd ht (by omega) (by omega)
        have HD3 : Hid (∀ w2 w3, Wx (fun i => i = mb) w1 w2 → Wx (fun i => i = db ∨ i = mb) w2 w3 → Dv w3 X db mb S.sz (lenP S.P - lenAt (dropF F s) t) pw' lf' (dropF (dropF F s) t) → Calls Try.prog 38 #[.pointer (some ⟨db, 0, none⟩), .string (bs t), .pointer (some ⟨f.b, 0, none⟩)] w3 fun e w' => e = .returned (.tuple #[]) ∧ Dsk w' (nxt X w w') db { S.pow pw' lf' with P := insP ⟨t, f.l, f.fa⟩ (dropP (dropP S.P s) t) } ∧ Wx X w w') := fun w2 w3 k2 k3 hd => by
          have k : Wx (fun i => i = db ∨ i = mb) w1 w3 := (k2.more fun i hi => Or.inl (Or.inr hi)).trans k3 fun i hi => Or.inl hi
          have hnm' := hD1.fs.no_map hf
          refine (put_any X X db mb S.sz (lenP S.P - lenAt (dropF F s) t) pw' lf' (dropF (dropF F s) t) ⟨t, f.l, f.fa, f.b, f.v⟩ w3 hd (fun g hg => (mem_dropF.1 hg).2) (k.blk (fun e => by rcases e with e | e; exact n1 e; exact hnm'.1 e) (hD1.fs.blk f hf)) ((hD1.fs.row f hf).wx k fun g e eg => by
              rcases eg with eg | eg
              · exact n2 (by rw [e, eg])
              · exact hnm'.2.1 (by rw [e, eg])) (hD1.fs.fast f hf) (nmB_len hb) hne (by
              have h1 : (dropF (dropF F s) t).length ≤ (dropF F s).length := List.length_filter_le _ _
              have h2 : (dropF F s).length ≤ F.length := List.length_filter_le _ _
              omega) (fun k hk => hk) (hD1.xs _ (Or.inr ⟨f, hf, Or.inl rfl⟩)) (fun g e => hD1.xs _ (Or.inr ⟨f, hf, Or.inr e⟩)) hd.xlt).mono ?_
          rintro e w4 ⟨he, hd4, k4⟩
          have k' : Wx X w1 w4 := (k.more fun i hi => Or.inl (by rcases hi with rfl | rfl; exact hD1.xd; exact hD1.xs _ (Or.inl rfl))).trans k4 fun i hi => Or.inl (by rw [hi]; exact hD1.xs _ (Or.inl rfl))
          have hx := (HX.out w1 hk1).trans k' fun i hi => Or.inl hi
          have e1 : lenP (insP ⟨t, f.l, f.fa⟩ (dropP (dropP S.P s) t)) = lenP S.P - lenAt (dropF F s) t := by
            rw [lenP_ins]
            show f.l.length + _ = _
            omega
          rw [← e1] at hd4
          refine ⟨he, ⟨⟨mb, _, ?_, hd4.grow (fun i hi => Or.inl hi) (nxt_lt hD.xlt hx.size)⟩, by show lenP (insP _ _) ≤ S.sz; rw [e1]; omega, hsz, hp.1, hp.2.1, hp.2.2⟩, hx⟩
          rw [ins_pl, drop_pl, drop_pl, eF]; rfl
        subst hA2
        clear hD1 hk1 hlk hF hf hnm n1 n2 n3 hpw HP HX hlenF hln hla hla2 hln2 hlf hno hne b0 b1 bz HN hb
        generalize f.b = fb at *
        generalize bs s = SS at *
        generalize bs t = TT at *
        go_wp2_with fail
        refine hN.mono ?_
        rintro e w2 ⟨rfl, rfl⟩
        clear hN
        go_wp2_with (at_delete; refine wpList_delete_own _ rfl _ _ 56 9 rfl 64 keyed Try.underlying56 ptrR mb F.length (DF F) rfl HM.out (.string SS) (.string s) rfl HKy.out ?_; intro w3 q1 q2; obtain ⟨q3, q4⟩ := HD1.out w3 _ q1 q2; have hdr := HD2.out w3 q3; replace q4 := hide_p q4; clear q1 q2 q3)
        refine hdr.mono ?_
        rintro e w4 ⟨rfl, q5, q6⟩
        have hpt := HD3.out w3 w4 q4.out q6 q5
        clear hdr q5 q6 HD1 HD2 HD3
        go_wp2_with fail
        refine hpt.mono ?_
        rintro e w5 ⟨rfl, hd, hk⟩
        have HQ : Hid (_ ∧ _) := ⟨hd, hk⟩
        clear hd hk hpt
        go_wp2
        go_ret
        exact ⟨rfl, HQ.out⟩
  · have hr' : (r != 0) = true := by simpa using hr
    simp only [] at hA2
    rw [if_pos hr] at hA2
    subst hA2
    clear hD1 hk1 hlk
    go_wp2
    go_ret
    exact ⟨rfl, hpw.out⟩

end Go.Proofs.Ytgkgflkcnigeaaa
