/-
  Layer 20: the landed disk: Sync, Truncate, Remove.
-/
import Derived.Test.YtgkgflkcnigeaaaDkApp
namespace Go.Proofs.Ytgkgflkcnigeaaa
set_option maxRecDepth 100000
open Go.RowKit Txt Go.Maps Dk

namespace Dk
def removeP (S : Ps) (s : List UInt8) : Int × Ps :=
  match stepC S.pw S.lf with
  | (r, pw, lf) => if r ≠ 0 then (200, S.pow pw lf) else
      match lookP S.P s with
      | some _ => (0, { S.pow pw lf with P := dropP S.P s })
      | none => (5, S.pow pw lf)
def truncP (S : Ps) (s : List UInt8) (n : Int) : Int × Ps :=
  match stepC S.pw S.lf with
  | (r, pw, lf) => if r ≠ 0 then (200, S.pow pw lf) else
      match lookP S.P s with
      | some f => if n < 0 ∨ n > f.l.length then (1, S.pow pw lf) else (0, { S.pow pw lf with P := setP S.P s fun f => ⟨f.nm, f.l.take n.toNat, min f.fa n.toNat⟩ })
      | none => (5, S.pow pw lf)
theorem set_one {w : World} {mb : Nat} {F : List Fl} (h : Fs w mb F) {f : Fl} (hf : f ∈ F) (l : List Nat) (fa : Nat) (v : Value) (k : Pl → Pl) (e : k f.pl = ⟨f.nm, l, fa⟩) : (setF F f.nm fun g => { g with l := l, fa := fa, v := v }).map Fl.pl = setP (F.map Fl.pl) f.nm k :=
  set_pl F f.nm _ k fun g hg eg => by rw [h.nm_inj hg hf eg, e]; rfl
theorem lenP_drop {s : List UInt8} : ∀ {P : List Pl}, OrdP P → lenP (dropP P s) + (match lookP P s with | some f => f.l.length | none => 0) = lenP P
  | [], _ => rfl
  | g :: r, ho => by
    obtain ⟨p1, p2⟩ := List.pairwise_cons.1 ho
    unfold dropP lookP
    by_cases c : g.nm = s
    · rw [List.find?_cons_of_pos (by simp [c]), List.filter_cons_of_neg (by simp [c]), lenP_cons]
      have e : r.filter (fun f => !(f.nm == s)) = r := by
        rw [List.filter_eq_self]
        intro k hk
        have := p1 k hk
        rw [c] at this
        have hne : k.nm ≠ s := fun e => by rw [e] at this; exact List.lt_irrefl _ this
        simpa using hne
      rw [e]
      exact Nat.add_comm _ _
    · rw [List.find?_cons_of_neg (by simp [c]), List.filter_cons_of_pos (by simp [c]), lenP_cons, lenP_cons]
      have := lenP_drop (s := s) p2
      unfold dropP lookP at this
      omega
theorem own_slice (a : Option Addr) (n c m d : Nat) : (Value.slice a n c).ownBlock = (Value.slice a m d).ownBlock := by cases a <;> rfl
theorem lenAt_pl (F : List Fl) (s : List UInt8) : (match lookP (F.map Fl.pl) s with | some f => f.l.length | none => 0) = lenAt F s := by
  rw [look_pl]
  unfold lenAt
  cases lookF F s <;> rfl
end Dk

set_option maxHeartbeats 2000000 in
theorem sync_any (X : Nat → Prop) (db : Nat) (S : Ps) (s : List UInt8) (w : World) (h : Dsk w X db S) (hs : s.length ≤ 9223372036854775807) :
    Calls Try.prog 15 #[.pointer (some ⟨db, 0, none⟩), .string (bs s)] w fun e w' => e = .returned (.int .i64 (syncP S s).1) ∧ Dsk w' (nxt X w w') db (syncP S s).2 ∧ Wx X w w' := by
  obtain ⟨mb, F, eF, hD⟩ := h.lies
  have hcall := call_any X db mb S.sz (lenP S.P) S.pw S.lf F w hD h.lf0 h.lf1
  have hrm := h.room
  have hsz := h.size
  have hlk : lookP S.P s = (lookF F s).map Fl.pl := by rw [← eF, look_pl]
  have hord : OrdP S.P := by rw [← eF]; exact hD.fs.ordP
  have HX : Hid (∀ w1, Wx (fun i => i = db) w w1 → Wx X w w1) := fun w1 k => k.more fun i hi => Or.inl (by rw [hi]; exact hD.xd)
  have HP : Hid (∀ r pw' lf' w1, stepC S.pw S.lf = (r, pw', lf') → Dv w1 X db mb S.sz (lenP S.P) pw' lf' F → Wx (fun i => i = db) w w1 → Dsk w1 (nxt X w w1) db (S.pow pw' lf') ∧ Wx X w w1) := fun r pw' lf' w1 h1 h2 k => ⟨h.pw eF h1 h2, HX.out w1 k⟩
  have HS2 : Hid (∀ r pw' lf', stepC S.pw S.lf = (r, pw', lf') → (pw' = 0 ∨ pw' = 1 ∨ pw' = 2) ∧ 0 ≤ lf' ∧ lf' ≤ 9223372036854775807) := fun r pw' lf' hst => (step_pow hst h.pow h.lf0 h.lf1).2
  have HA : Hid (syncP S s = match stepC S.pw S.lf with
    | (r, pw, lf) => if r ≠ 0 then (200, S.pow pw lf) else
        match lookP S.P s with
        | some _ => (0, { S.pow pw lf with P := setP S.P s fun f => ⟨f.nm, f.l, f.l.length⟩ })
        | none => (5, S.pow pw lf)) := rfl
  generalize syncP S s = A at *
  have hlenF := h.len eF
  clear h
  go_enter Try.func15, Try.ntmps15
  go_wp2_with fail
  refine hcall.mono ?_
  rintro e w1 ⟨r, pw', lf', hst, rfl, hD1, hk1⟩
  have hA2 := HA.out
  rw [hst] at hA2
  clear HA hcall
  have hp := HS2.out _ _ _ hst
  have hpw := hide_p (HP.out _ _ _ w1 hst hD1 hk1)
  clear hst
  by_cases hr : r = 0
  · subst hr
    simp only [] at hA2
    rw [if_neg (by decide), hlk] at hA2
    obtain ⟨⟨c0, c1, c2, c3, c4⟩, fz⟩ := hD1.cells
    have hlu := hD1.look (s := s) hs
    cases hF : lookF F s with
    | none =>
      rw [hF] at hA2
      simp only [Option.map_none] at hA2
      subst hA2
      rw [ptrF_none hF] at hlu
      clear hD1 hk1 hlk hF
      generalize bs s = SS at *
      go_wp2
      go_ret
      exact ⟨rfl, hpw.out⟩
    | some f =>
      rw [hF] at hA2
      simp only [Option.map_some] at hA2
      rw [ptrF_some hF] at hlu
      obtain ⟨hf, hnm⟩ := lookF_some hF
      obtain ⟨b0, b1, bz, n1, n2, n3⟩ := hD1.file hf
      obtain ⟨va, vc, ev, e1, e2, -⟩ := (hD1.fs.row f hf).form
      have hlen := hlenF f hf
      have HE : Hid (Dsk (w1.setCell ⟨f.b, 1, none⟩ (.int .i64 (f.l.length : Nat))) (nxt X w (w1.setCell ⟨f.b, 1, none⟩ (.int .i64 (f.l.length : Nat)))) db { S.pow pw' lf' with P := setP S.P s fun f => ⟨f.nm, f.l, f.l.length⟩ } ∧ Wx X w (w1.setCell ⟨f.b, 1, none⟩ (.int .i64 (f.l.length : Nat)))) := by
        have k : Wx (fun i => i = f.b) w1 (w1.setCell ⟨f.b, 1, none⟩ (.int .i64 (f.l.length : Nat))) := Wx.set w1 1 _ rfl
        obtain ⟨r1, r2⟩ := hD1.turn1 hf (k.more fun i hi => Or.inl (Or.inl hi)) (heap_setCell_same _ f.b 1 _ _ _ (hD1.fs.blk f hf)) ((hD1.fs.row f hf).wx k fun g e eg => n3 (by rw [e, eg])) (Nat.le_refl _) (Or.inl rfl)
        have hx := (HX.out w1 hk1).trans r2 fun i hi => Or.inl hi
        have hln : lenP (setP S.P s fun f => ⟨f.nm, f.l, f.l.length⟩) = lenP S.P := by
          have := lenP_set (s := s) (h := fun f => (⟨f.nm, f.l, f.l.length⟩ : Pl)) hord (by rw [hlk, hF]; rfl)
          simp only [] at this
          omega
        refine ⟨⟨⟨mb, _, ?_, (show Dv _ _ db mb S.sz (lenP (setP S.P s fun f => ⟨f.nm, f.l, f.l.length⟩)) pw' lf' _ by rw [hln]; exact r1.grow (nxt_mono hk1.size) (nxt_lt hD.xlt (Nat.le_trans hk1.size r2.size)))⟩, by show lenP (setP S.P s _) ≤ S.sz; rw [hln]; exact hrm, hsz, hp.1, hp.2.1, hp.2.2⟩, hx⟩
        rw [set_one hD1.fs hf f.l f.l.length f.v (fun f => ⟨f.nm, f.l, f.l.length⟩) rfl, eF, hnm]
      rw [ev] at b0
      subst hA2
      clear hD1 hk1 hlk hF hf hnm ev n1 n2 n3 hpw HP HX hlenF
      generalize bs s = SS at *
      generalize f.b = fb at *
      go_wp2
      go_ret
      exact ⟨rfl, HE.out⟩
  · have hr' : (r != 0) = true := by simpa using hr
    simp only [] at hA2
    rw [if_pos hr] at hA2
    subst hA2
    clear hD1 hk1 hlk
    go_wp2
    go_ret
    exact ⟨rfl, hpw.out⟩

set_option maxHeartbeats 2000000 in
theorem trunc_any (X : Nat → Prop) (db : Nat) (S : Ps) (s : List UInt8) (n : Int) (w : World) (h : Dsk w X db S) (hs : s.length ≤ 9223372036854775807) :
    Calls Try.prog 19 #[.pointer (some ⟨db, 0, none⟩), .string (bs s), .int .i64 n] w fun e w' => e = .returned (.int .i64 (truncP S s n).1) ∧ Dsk w' (nxt X w w') db (truncP S s n).2 ∧ Wx X w w' := by
  have mixed : Try.prog.follows Departure.mixedOrders = true := by kernel_rfl
  obtain ⟨mb, F, eF, hD⟩ := h.lies
  have hcall := call_any X db mb S.sz (lenP S.P) S.pw S.lf F w hD h.lf0 h.lf1
  have hrm := h.room
  have hsz := h.size
  have hlk : lookP S.P s = (lookF F s).map Fl.pl := by rw [← eF, look_pl]
  have hord : OrdP S.P := by rw [← eF]; exact hD.fs.ordP
  have HX : Hid (∀ w1, Wx (fun i => i = db) w w1 → Wx X w w1) := fun w1 k => k.more fun i hi => Or.inl (by rw [hi]; exact hD.xd)
  have HP : Hid (∀ r pw' lf' w1, stepC S.pw S.lf = (r, pw', lf') → Dv w1 X db mb S.sz (lenP S.P) pw' lf' F → Wx (fun i => i = db) w w1 → Dsk w1 (nxt X w w1) db (S.pow pw' lf') ∧ Wx X w w1) := fun r pw' lf' w1 h1 h2 k => ⟨h.pw eF h1 h2, HX.out w1 k⟩
  have HS2 : Hid (∀ r pw' lf', stepC S.pw S.lf = (r, pw', lf') → (pw' = 0 ∨ pw' = 1 ∨ pw' = 2) ∧ 0 ≤ lf' ∧ lf' ≤ 9223372036854775807) := fun r pw' lf' hst => (step_pow hst h.pow h.lf0 h.lf1).2
  have HA : Hid (truncP S s n = match stepC S.pw S.lf with
    | (r, pw, lf) => if r ≠ 0 then (200, S.pow pw lf) else
        match lookP S.P s with
        | some f => if n < 0 ∨ n > f.l.length then (1, S.pow pw lf) else (0, { S.pow pw lf with P := setP S.P s fun f => ⟨f.nm, f.l.take n.toNat, min f.fa n.toNat⟩ })
        | none => (5, S.pow pw lf)) := rfl
  generalize truncP S s n = A at *
  have hlenF := h.len eF
  clear h
  go_enter Try.func19, Try.ntmps19
  go_wp2_with fail
  refine hcall.mono ?_
  rintro e w1 ⟨r, pw', lf', hst, rfl, hD1, hk1⟩
  have hA2 := HA.out
  rw [hst] at hA2
  clear HA hcall
  have hp := HS2.out _ _ _ hst
  have hpw := hide_p (HP.out _ _ _ w1 hst hD1 hk1)
  clear hst
  by_cases hr : r = 0
  · subst hr
    simp only [] at hA2
    rw [if_neg (by decide), hlk] at hA2
    obtain ⟨⟨c0, c1, c2, c3, c4⟩, fz⟩ := hD1.cells
    have hlu := hD1.look (s := s) hs
    cases hF : lookF F s with
    | none =>
      rw [hF] at hA2
      simp only [Option.map_none] at hA2
      subst hA2
      rw [ptrF_none hF] at hlu
      clear hD1 hk1 hlk hF
      generalize bs s = SS at *
      go_wp2
      go_ret
      exact ⟨rfl, hpw.out⟩
    | some f =>
      rw [hF] at hA2
      simp only [Option.map_some] at hA2
      rw [ptrF_some hF] at hlu
      obtain ⟨hf, hnm⟩ := lookF_some hF
      obtain ⟨b0, b1, bz, n1, n2, n3⟩ := hD1.file hf
      obtain ⟨va, vc, ev, e1, e2, -⟩ := (hD1.fs.row f hf).form
      have hlen := hlenF f hf
      have hpl : f.pl.l.length = f.l.length := rfl
      rw [hpl] at hA2
      by_cases d1 : n < 0
      · rw [if_pos (Or.inl d1)] at hA2
        subst hA2
        rw [ev] at b0
        clear hD1 hk1 hlk hF hf hnm ev n1 n2 n3 HP HX hlenF hpl
        generalize bs s = SS at *
        generalize f.b = fb at *
        go_wp2
        go_ret
        exact ⟨rfl, hpw.out⟩
      · by_cases d2 : n > f.l.length
        · rw [if_pos (Or.inr d2)] at hA2
          subst hA2
          rw [ev] at b0
          clear hD1 hk1 hlk hF hf hnm ev n1 n2 n3 HP HX hlenF hpl
          generalize bs s = SS at *
          generalize f.b = fb at *
          go_wp2
          go_ret
          exact ⟨rfl, hpw.out⟩
        · rw [if_neg (by omega)] at hA2
          obtain ⟨m, hm⟩ : ∃ m : Nat, (m : Int) = n := ⟨n.toNat, by omega⟩
          have hmn : n.toNat = m := by omega
          rw [hmn] at hA2
          have hml : m ≤ f.l.length := by omega
          have hul := lenP_mem (P := S.P) (f := f.pl) (by rw [← eF]; exact List.mem_map.2 ⟨f, hf, rfl⟩)
          rw [hpl] at hul
          have hu1 : ((lenP S.P : Int) - ((f.l.length : Int) - (m : Int))) = ((lenP S.P - (f.l.length - m) : Nat) : Int) := by omega
          have hfm : (if (m : Int) < (f.fa : Int) then (m : Int) else (f.fa : Int)) = ((min f.fa m : Nat) : Int) := by split <;> omega
          have hfm2 : min (f.fa : Int) (m : Int) = ((min f.fa m : Nat) : Int) := by omega
          have HE : Hid (∀ w4, w4 = (((w1.drew.setCell ⟨db, 1, none⟩ (.int .i64 ((lenP S.P : Int) - ((f.l.length : Int) - (m : Int))))).setCell ⟨f.b, 0, none⟩ (.slice va m vc)).setCell ⟨f.b, 1, none⟩ (.int .i64 ((min f.fa m : Nat) : Int))) → Dsk w4 (nxt X w w4) db { S.pow pw' lf' with P := setP S.P s fun f => ⟨f.nm, f.l.take m, min f.fa m⟩ } ∧ Wx X w w4) := by
            rintro w4 hw4
            obtain ⟨q1, q2⟩ := hD1.used (lenP S.P - (f.l.length - m))
            rw [← hu1] at q1 q2
            generalize w1.drew.setCell ⟨db, 1, none⟩ (.int .i64 ((lenP S.P : Int) - ((f.l.length : Int) - (m : Int)))) = w2 at q1 q2 hw4
            have hrow := q1.fs.row f hf
            rw [ev] at hrow
            have k : Wx (fun i => i = f.b) w2 w4 := by rw [hw4]; exact (Wx.set (X := fun i => i = f.b) w2 0 _ (k := f.b) rfl).trans (Wx.set (X := fun i => i = f.b) _ 1 _ (k := f.b) rfl) fun i hi => Or.inl hi
            obtain ⟨r1, r2⟩ := q1.turn1 hf (k.more fun i hi => Or.inl (Or.inl hi)) (by rw [hw4]; exact heap_setCell_same _ f.b 1 _ _ _ (heap_setCell_same _ f.b 0 _ _ (.slice va m vc) (q1.fs.blk f hf))) ((hrow.cut hml (by omega) (Nat.le_refl _)).wx k fun g e eg => n3 (by rw [ev, own_slice va _ vc m vc, e, eg])) (by rw [List.length_take]; omega) (Or.inl (by rw [ev]; exact own_slice _ _ _ _ _))
            have hx := ((HX.out w1 hk1).trans (q2.more fun i hi => Or.inl (by rw [hi]; exact hD1.xd)) fun i hi => Or.inl hi).trans r2 fun i hi => Or.inl hi
            have hln : lenP (setP S.P s fun f => ⟨f.nm, f.l.take m, min f.fa m⟩) = lenP S.P - (f.l.length - m) := by
              have := lenP_set (s := s) (h := fun f => (⟨f.nm, f.l.take m, min f.fa m⟩ : Pl)) hord (by rw [hlk, hF]; rfl)
              simp only [List.length_take] at this
              rw [hpl] at this
              omega
            refine ⟨⟨⟨mb, _, ?_, (show Dv _ _ db mb S.sz (lenP (setP S.P s fun f => ⟨f.nm, f.l.take m, min f.fa m⟩)) pw' lf' _ by rw [hln]; exact r1.grow (nxt_mono (Nat.le_trans hk1.size q2.size)) (nxt_lt hD.xlt hx.size))⟩, by show lenP (setP S.P s _) ≤ S.sz; rw [hln]; omega, hsz, hp.1, hp.2.1, hp.2.2⟩, hx⟩
            rw [set_one q1.fs hf (f.l.take m) (min f.fa m) (.slice va m vc) (fun f => ⟨f.nm, f.l.take m, min f.fa m⟩) rfl, eF, hnm]
          rw [ev] at b0
          subst hA2
          subst hm
          have hU : lenP S.P ≤ 67108864 := by omega
          clear hD1 hk1 hlk hF hf hnm ev n2 n3 hpw HP HX hlenF hpl hmn d1 hu1
          have d2' : (m : Int) ≤ f.l.length := by omega
          have hul' : (f.l.length : Int) ≤ lenP S.P := by omega
          have hU' : (lenP S.P : Int) ≤ 67108864 := by omega
          generalize bs s = SS at *
          generalize f.b = fb at *
          go_wp2_with fail
          go_region
          go_wp2
          go_ret
          exact ⟨rfl, HE.out _ rfl⟩
  · have hr' : (r != 0) = true := by simpa using hr
    simp only [] at hA2
    rw [if_pos hr] at hA2
    subst hA2
    clear hD1 hk1 hlk
    go_wp2
    go_ret
    exact ⟨rfl, hpw.out⟩

set_option maxHeartbeats 2000000 in
theorem remove_any (X : Nat → Prop) (db : Nat) (S : Ps) (s : List UInt8) (w : World) (h : Dsk w X db S) (hs : s.length ≤ 9223372036854775807) :
    Calls Try.prog 24 #[.pointer (some ⟨db, 0, none⟩), .string (bs s)] w fun e w' => e = .returned (.int .i64 (removeP S s).1) ∧ Dsk w' (nxt X w w') db (removeP S s).2 ∧ Wx X w w' := by
  obtain ⟨mb, F, eF, hD⟩ := h.lies
  have hcall := call_any X db mb S.sz (lenP S.P) S.pw S.lf F w hD h.lf0 h.lf1
  have hrm := h.room
  have hsz := h.size
  have hlk : lookP S.P s = (lookF F s).map Fl.pl := by rw [← eF, look_pl]
  have hord : OrdP S.P := by rw [← eF]; exact hD.fs.ordP
  have HX : Hid (∀ w1, Wx (fun i => i = db) w w1 → Wx X w w1) := fun w1 k => k.more fun i hi => Or.inl (by rw [hi]; exact hD.xd)
  have HP : Hid (∀ r pw' lf' w1, stepC S.pw S.lf = (r, pw', lf') → Dv w1 X db mb S.sz (lenP S.P) pw' lf' F → Wx (fun i => i = db) w w1 → Dsk w1 (nxt X w w1) db (S.pow pw' lf') ∧ Wx X w w1) := fun r pw' lf' w1 h1 h2 k => ⟨h.pw eF h1 h2, HX.out w1 k⟩
  have HS2 : Hid (∀ r pw' lf', stepC S.pw S.lf = (r, pw', lf') → (pw' = 0 ∨ pw' = 1 ∨ pw' = 2) ∧ 0 ≤ lf' ∧ lf' ≤ 9223372036854775807) := fun r pw' lf' hst => (step_pow hst h.pow h.lf0 h.lf1).2
  have HA : Hid (removeP S s = match stepC S.pw S.lf with
    | (r, pw, lf) => if r ≠ 0 then (200, S.pow pw lf) else
        match lookP S.P s with
        | some _ => (0, { S.pow pw lf with P := dropP S.P s })
        | none => (5, S.pow pw lf)) := rfl
  generalize removeP S s = A at *
  have hlenF := h.len eF
  clear h
  go_enter Try.func24, Try.ntmps24
  go_wp2_with fail
  refine hcall.mono ?_
  rintro e w1 ⟨r, pw', lf', hst, rfl, hD1, hk1⟩
  have hA2 := HA.out
  rw [hst] at hA2
  clear HA hcall
  have hp := HS2.out _ _ _ hst
  have hpw := hide_p (HP.out _ _ _ w1 hst hD1 hk1)
  clear hst
  by_cases hr : r = 0
  · subst hr
    simp only [] at hA2
    rw [if_neg (by decide), hlk] at hA2
    obtain ⟨⟨c0, c1, c2, c3, c4⟩, fz⟩ := hD1.cells
    have hlu := hD1.look (s := s) hs
    cases hF : lookF F s with
    | none =>
      rw [hF] at hA2
      simp only [Option.map_none] at hA2
      subst hA2
      rw [ptrF_none hF] at hlu
      clear hD1 hk1 hlk hF
      generalize bs s = SS at *
      go_wp2
      go_ret
      exact ⟨rfl, hpw.out⟩
    | some f =>
      rw [hF] at hA2
      simp only [Option.map_some] at hA2
      rw [ptrF_some hF] at hlu
      obtain ⟨hf, hnm⟩ := lookF_some hF
      obtain ⟨b0, b1, bz, n1, n2, n3⟩ := hD1.file hf
      obtain ⟨va, vc, ev, e1, e2, -⟩ := (hD1.fs.row f hf).form
      have hlen := hlenF f hf
      have hla := lenAt_pl F s
      rw [eF] at hla
      have hln := lenP_drop (s := s) hord
      rw [hla] at hln
      have HD := hide_p (drop_any X db mb S.sz (lenP S.P) pw' lf' F s w1 hD1 hs (by omega) (by omega))
      have HE : Hid (∀ w2, Dv w2 X db mb S.sz (lenP S.P - lenAt F s) pw' lf' (dropF F s) → Wx (fun i => i = db ∨ i = mb) w1 w2 → Dsk w2 (nxt X w w2) db { S.pow pw' lf' with P := dropP S.P s } ∧ Wx X w w2) := fun w2 hd k => by
        have k' : Wx X w1 w2 := k.more fun i hi => Or.inl (by rcases hi with rfl | rfl; exact hD1.xd; exact hD1.xs _ (Or.inl rfl))
        have hx := (HX.out w1 hk1).trans k' fun i hi => Or.inl hi
        have e : lenP S.P - lenAt F s = lenP (dropP S.P s) := by omega
        rw [e] at hd
        refine ⟨⟨⟨mb, _, ?_, hd.grow (fun i hi => Or.inl hi) (nxt_lt hD.xlt hx.size)⟩, by show lenP (dropP S.P s) ≤ S.sz; omega, hsz, hp.1, hp.2.1, hp.2.2⟩, hx⟩
        rw [drop_pl, eF]
      subst hA2
      clear hD1 hk1 hlk hF hf hnm ev n1 n2 n3 hpw HP HX hlenF hln hla b0 b1 bz
      generalize bs s = SS at *
      generalize f.b = fb at *
      go_wp2_with fail
      refine HD.out.mono ?_
      rintro e w2 ⟨rfl, hd, hk⟩
      have HQ := hide_p (HE.out w2 hd hk)
      clear hd hk HE HD
      go_wp2
      go_ret
      exact ⟨rfl, HQ.out⟩
  · have hr' : (r != 0) = true := by simpa using hr
    simp only [] at hA2
    rw [if_pos hr] at hA2
    subst hA2
    clear hD1 hk1 hlk
    go_wp2
    go_ret
    exact ⟨rfl, hpw.out⟩

end Go.Proofs.Ytgkgflkcnigeaaa
