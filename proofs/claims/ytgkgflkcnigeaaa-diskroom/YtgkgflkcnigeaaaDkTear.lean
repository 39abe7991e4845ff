/-
  Layer 20: the landed disk: what does not stand fast is torn.
-/
import Derived.Test.YtgkgflkcnigeaaaDkRen
import Derived.BigRegion
namespace Go.Proofs.Ytgkgflkcnigeaaa
set_option maxRecDepth 100000
open Go.RowKit Txt Go.Maps Dk

namespace Dk
/-- What is left of a file that is torn. -/
def trP (k : Nat) (f : Pl) : Pl := ⟨f.nm, f.l.take (f.fa + min (f.l.length - f.fa) k), f.fa⟩
def tearP (k : Nat) (P : List Pl) : List Pl := P.map (trP k)
def tornP (P : List Pl) : List (List UInt8) := (P.filter fun f => decide (f.fa < f.l.length)).map Pl.nm
/-- The first i are torn. -/
def tearI (k i : Nat) (P : List Pl) : List Pl := tearP k (P.take i) ++ P.drop i

theorem lenP_append (A B : List Pl) : lenP (A ++ B) = lenP A + lenP B := by
  induction A with
  | nil => simp [lenP_nil]
  | cons f r ih => rw [List.cons_append, lenP_cons, lenP_cons, ih]; omega
theorem tearI_at {k i : Nat} {P : List Pl} (h : i < P.length) : tearI k i P = tearP k (P.take i) ++ P[i] :: P.drop (i + 1) := by
  unfold tearI
  rw [List.drop_eq_getElem_cons h]
theorem tearI_next {k i : Nat} {P : List Pl} (h : i < P.length) : tearI k (i + 1) P = tearP k (P.take i) ++ trP k P[i] :: P.drop (i + 1) := by
  unfold tearI tearP
  rw [List.take_add_one, List.getElem?_eq_getElem h, List.map_append]
  simp
theorem tearI_end (k : Nat) (P : List Pl) : tearI k P.length P = tearP k P := by unfold tearI; rw [List.take_length, List.drop_length, List.append_nil]
theorem torn_next {i : Nat} {P : List Pl} (h : i < P.length) : tornP (P.take (i + 1)) = tornP (P.take i) ++ (if P[i].fa < P[i].l.length then [P[i].nm] else []) := by
  unfold tornP
  rw [List.take_add_one, List.getElem?_eq_getElem h, List.filter_append, List.map_append]
  congr 1
  show (List.filter _ [P[i]]).map Pl.nm = _
  by_cases c : P[i].fa < P[i].l.length
  · rw [if_pos c, List.filter_cons_of_pos (by simpa using c)]; rfl
  · rw [if_neg c, List.filter_cons_of_neg (by simpa using c)]; rfl
theorem trP_same {k : Nat} {f : Pl} (h : f.l.length ≤ f.fa) (hf : f.fa ≤ f.l.length) : trP k f = f := by
  unfold trP
  rw [List.take_of_length_le (by omega)]
theorem ord_apart {P : List Pl} (ho : OrdP P) {i : Nat} (h : i < P.length) : (∀ g ∈ P.take i, g.nm ≠ P[i].nm) ∧ ∀ g ∈ P.drop (i + 1), g.nm ≠ P[i].nm := by
  have e : P = P.take i ++ P[i] :: P.drop (i + 1) := by rw [← List.drop_eq_getElem_cons h, List.take_append_drop]
  unfold OrdP at ho
  rw [e] at ho
  obtain ⟨h1, h2, h3⟩ := List.pairwise_append.1 ho
  refine ⟨fun g hg e => ?_, fun g hg e => ?_⟩
  · have := h3 g hg _ List.mem_cons_self
    rw [e] at this
    exact List.lt_irrefl _ this
  · have := (List.pairwise_cons.1 h2).1 g hg
    rw [e] at this
    exact List.lt_irrefl _ this
theorem tear_names {k : Nat} {A : List Pl} {s : List UInt8} (h : ∀ g ∈ A, g.nm ≠ s) : ∀ g ∈ tearP k A, g.nm ≠ s := by
  intro g hg
  obtain ⟨g', hg', rfl⟩ := List.mem_map.1 hg
  exact h g' hg'
theorem look_mid {A B : List Pl} {f : Pl} (h : ∀ g ∈ A, g.nm ≠ f.nm) : lookP (A ++ f :: B) f.nm = some f := by
  unfold lookP
  rw [List.find?_append]
  have : A.find? (fun g => g.nm == f.nm) = none := by
    rw [List.find?_eq_none]
    intro g hg
    simpa using h g hg
  rw [this, List.find?_cons_of_pos (by simp)]
  rfl
theorem set_mid {A B : List Pl} {f : Pl} (h1 : ∀ g ∈ A, g.nm ≠ f.nm) (h2 : ∀ g ∈ B, g.nm ≠ f.nm) (k : Pl → Pl) : setP (A ++ f :: B) f.nm k = A ++ k f :: B := by
  have e : setP (A ++ f :: B) f.nm k = setP A f.nm k ++ (if f.nm = f.nm then k f else f) :: setP B f.nm k := by unfold setP; rw [List.map_append, List.map_cons]
  rw [e, if_pos rfl, setP_none h1, setP_none h2]
theorem nxt_same {X : Nat → Prop} {w w' : World} (h : w'.heap.size = w.heap.size) : nxt X w w' = X := by
  funext k
  refine propext ⟨fun c => ?_, Or.inl⟩
  rcases c with c | c
  · exact c
  · omega
theorem row_wx {X : Nat → Prop} {w w' : World} {B e s n : Nat} {v : Value} {xs : List Value} (h : w.ownsRow B e s v n xs) (k : Wx X w w') (hX : ∀ g, v.ownBlock = some g → ¬ X g) : w'.ownsRow B e s v n xs := by
  cases e : v.ownBlock with
  | none =>
    refine ⟨h.1, ?_⟩
    rcases h.2 with c | ⟨g, cap, cur, rfl, _⟩
    · exact Or.inl c
    · cases e
  | some g => exact ownsRow_far h (k.block g (h.lt g e).2 (hX g e)) e
theorem enc_bs (s : List UInt8) : encStr s = .string (bs s) := rfl
end Dk

theorem info_str : (Try.prog.info? 9).map (fun i => (i.zero, i.size, i.bytes)) = some (some (.string ⟨#[]⟩), 1, 16) := by kernel_rfl

set_option maxHeartbeats 2000000 in
theorem tear_any (X : Nat → Prop) (db mb sz : Nat) (pw lf : Int) (P : List Pl) (F : List Fl) (k : Nat) (w : World) (eF : F.map Fl.pl = P) (h : Dv w X db mb sz (lenP P) pw lf F) (hl : P.length ≤ 1000000000) (hsz : lenP P ≤ 1000000000) (hk : k ≤ 9223372036854775807) :
    Calls Try.prog 34 #[.pointer (some ⟨db, 0, none⟩), .int .i64 k] w fun e w' => ∃ v G, e = .returned v ∧ w'.ownsRow w.heap.size 9 1 v (tornP P).length ((tornP P).map encStr) ∧ G.map Fl.pl = tearP k P ∧ Dv w' X db mb sz (lenP (tearP k P)) pw lf G ∧ Wx X w w' := by
  have mixed : Try.prog.follows Departure.mixedOrders = true := by kernel_rfl
  have hnm := names_any X db mb sz (lenP P) pw lf F w h (by rw [← eF, List.length_map] at hl; exact hl)
  have hFl : F.length = P.length := by rw [← eF, List.length_map]
  have hFn : F.map Fl.nm = P.map Pl.nm := by rw [← eF, List.map_map]; rfl
  rw [hFl, hFn] at hnm
  have HO : Hid (OrdP P) := by show OrdP P; rw [← eF]; exact h.fs.ordP
  have HF : Hid (∀ f ∈ P, f.fa ≤ f.l.length) := by
    intro f hf
    rw [← eF] at hf
    obtain ⟨g, hg, rfl⟩ := List.mem_map.1 hf
    exact h.fs.fast g hg
  have HNl : Hid (∀ f ∈ P, f.nm.length ≤ 32) := by
    intro f hf
    rw [← eF] at hf
    obtain ⟨g, hg, rfl⟩ := List.mem_map.1 hf
    exact h.fs.nam g hg
  have HD := hide_p h
  have HX : Hid (∀ k, X k → k < w.heap.size) := h.xlt
  have HE := hide_p eF
  clear h hFl hFn eF
  obtain ⟨is, his, hzs, hss, hbys⟩ := info_parts info_str
  go_enter Try.func34, Try.ntmps34
  go_wp2_with fail
  refine hnm.mono ?_
  rintro e w1 ⟨nv, rfl, hrow, hb1⟩
  clear hnm
  obtain ⟨na, nc, rfl⟩ := owns_form hrow
  have HR := hide_p hrow
  have HB1 := hide_p hb1
  clear hrow hb1
  go_wp2_with fail
  go_loopg [5, 14] P.length (fun m t5 t14 wr => ∃ (i : Nat) (tv : Value) (G : List Fl), t14 = .int .i64 (i : Int) ∧ t5 = tv ∧ i ≤ P.length ∧ Hid (m = P.length - i ∧ wr.ownsRow w1.heap.size 9 1 tv (tornP (P.take i)).length ((tornP (P.take i)).map encStr) ∧ G.map Fl.pl = tearI k i P ∧ Dv wr X db mb sz (lenP (tearI k i P)) pw lf G ∧ Wx X w wr ∧ w1.heap.size ≤ wr.heap.size ∧ wr.ownsRow w.heap.size 9 1 (.slice na P.length nc) P.length ((P.map Pl.nm).map encStr)))
  case atStart => exact ⟨0, _, F, rfl, rfl, Nat.zero_le _, ⟨rfl, World.ownsRow_nil _ _ _ _, HE.out, HD.out.below HB1.out, Wx.of_below _ HB1.out, Nat.le_refl _, HR.out⟩⟩
  case round =>
    obtain ⟨i, tv, G, rfl, rfl, hil, HI⟩ := hrel
    by_cases c : i < P.length
    · obtain ⟨hm, htn, hG, hDr, hxr, hsr, hrw⟩ := HI.out
      obtain ⟨hA, hB⟩ := ord_apart HO.out c
      have hfa := HF.out _ (List.getElem_mem c)
      have hnl := HNl.out _ (List.getElem_mem c)
      have hat := tearI_at (k := k) c
      have hnx := tearI_next (k := k) c
      have htx := torn_next c
      have hlp : lookP (tearI k i P) P[i].nm = some P[i] := by rw [hat]; exact look_mid (tear_names hA)
      have hln : lenP (tearI k i P) = lenP (tearP k (P.take i)) + (P[i].l.length + lenP (P.drop (i + 1))) := by rw [hat, lenP_append, lenP_cons]
      have hset := fun q => set_mid (f := P[i]) (tear_names (k := k) hA) hB q
      rw [← hat] at hset
      have htot : lenP (tearI k i P) ≤ 1000000000 := by
        have h1 : lenP P = lenP (P.take i) + (P[i].l.length + lenP (P.drop (i + 1))) := by rw [← lenP_cons, ← List.drop_eq_getElem_cons c, ← lenP_append, List.take_append_drop]
        have h2 : ∀ A : List Pl, lenP (tearP k A) ≤ lenP A := by
          intro A
          induction A with
          | nil => exact Nat.le_refl _
          | cons f r ih =>
            have e : tearP k (f :: r) = trP k f :: tearP k r := rfl
            rw [e, lenP_cons, lenP_cons]
            have : (trP k f).l.length ≤ f.l.length := by unfold trP; rw [List.length_take]; omega
            omega
        have := h2 (P.take i)
        omega
      obtain ⟨g, gc, hgc, hg1, hg2⟩ := hrw.form (by omega)
      simp only [Value.slice.injEq, true_and] at hgc
      obtain ⟨rfl, rfl⟩ := hgc
      have hci : wr.cell? ⟨g, i, none⟩ = some (.string (bs P[i].nm)) := by
        rw [hrw.cellAt i (by omega), List.getElem?_map, List.getElem?_map, List.getElem?_eq_getElem c]; rfl
      obtain ⟨f, hlf, hfp⟩ : ∃ f, lookF G P[i].nm = some f ∧ f.pl = P[i] := by
        have e := look_pl G P[i].nm
        rw [hG, hlp] at e
        cases e2 : lookF G P[i].nm with
        | none => rw [e2] at e; cases e
        | some f => rw [e2] at e; exact ⟨f, rfl, by simpa using e.symm⟩
      have hlu := hDr.look (s := P[i].nm) (by omega)
      rw [ptrF_some hlf] at hlu
      obtain ⟨hf, hnm⟩ := lookF_some hlf
      obtain ⟨b0, b1, bz, n1, n2, n3⟩ := hDr.file hf
      obtain ⟨⟨c0, c1, c2, c3, c4⟩, fz⟩ := hDr.cells
      have e1 : f.l = P[i].l := by rw [← hfp]; rfl
      have e2 : f.fa = P[i].fa := by rw [← hfp]; rfl
      have hfrow := hDr.fs.row f hf
      have hl63 : P.length ≤ 1000000000 := hl
      have hgX : ¬ X g := fun hx => by have := HX.out g hx; omega
      by_cases d : P[i].l.length ≤ P[i].fa
      · have hz : ((f.l.length : Int) - (f.fa : Int)) = 0 := by rw [e1, e2]; omega
        have hsame : tearI k (i + 1) P = tearI k i P := by rw [hnx, trP_same d hfa, hat]
        have htorn : tornP (P.take (i + 1)) = tornP (P.take i) := by rw [htx, if_neg (by omega), List.append_nil]
        obtain ⟨va, vc, ev, -, -, -⟩ := hfrow.form
        rw [ev] at b0
        have HQ : Hid (wr.drew.ownsRow w1.heap.size 9 1 u5 (tornP (P.take (i + 1))).length ((tornP (P.take (i + 1))).map encStr) ∧ G.map Fl.pl = tearI k (i + 1) P ∧ Dv wr.drew X db mb sz (lenP (tearI k (i + 1) P)) pw lf G ∧ Wx X w wr.drew ∧ w1.heap.size ≤ wr.drew.heap.size ∧ wr.drew.ownsRow w.heap.size 9 1 (.slice (some ⟨g, 0, none⟩) P.length nc) P.length ((P.map Pl.nm).map encStr)) := by
          show _ ∧ _
          rw [htorn, hsame]
          exact ⟨htn, hG, hDr.below ((Below.refl _ _).drew), hxr.trans (Wx.drew _ _) fun i hi => Or.inl hi, hsr, hrw⟩
        clear htn hG hDr hxr hsr hrw HI hat hnx htx hlp hln hset htot hlf hfp hf hnm n1 n2 n3 hfrow hgX ev hsame htorn hA hB HNl HF HO HX HD HE HR HB1 e1 e2 d hfa hnl
        generalize bs P[i].nm = SS at *
        generalize f.b = fb at *
        generalize f.l.length = fl at *
        generalize f.fa = ffa at *
        have ci : (i : Int) < (P.length : Int) := by omega
        go_wp2_with fail
        go_region
        go_wp2_with fail
        go_roundg (P.length - (i + 1))
        case measure => omega
        case rel => exact ⟨i + 1, _, G, by go_num, rfl, by omega, ⟨rfl, HQ.out⟩⟩
      · have hz : ((f.l.length : Int) - (f.fa : Int) == 0) = false := by rw [beq_eq_false_iff_ne, e1, e2]; omega
        have hz2 : (0 : Int) ≤ (f.l.length : Int) - (f.fa : Int) := by rw [e1, e2]; omega
        have htorn : tornP (P.take (i + 1)) = tornP (P.take i) ++ [P[i].nm] := by rw [htx, if_pos (by omega)]
        obtain ⟨s0, hs0⟩ : ∃ s0, s0 = min (f.l.length - f.fa) k := ⟨_, rfl⟩
        rcases hfrow.2 with ⟨_, e0⟩ | ⟨g2, vc, cur, ev, hg2b, r1, r2, r3, r4⟩
        · rw [e1] at e0
          rw [e0] at d
          exact absurd (Nat.zero_le _) d
        · have hs1 : f.fa + s0 ≤ f.l.length := by rw [hs0]; rw [← e1, ← e2] at d hfa; omega
          have hU0 : f.l.length ≤ lenP (tearI k i P) := by rw [hln, e1]; omega
          have hu1 : ((lenP (tearI k i P) : Int) - (((f.l.length : Int) - (f.fa : Int)) - (s0 : Int))) = ((lenP (tearI k i P) - (f.l.length - f.fa - s0) : Nat) : Int) := by omega
          have hfm : (if (k : Int) < (f.l.length : Int) - (f.fa : Int) then (k : Int) else (f.l.length : Int) - (f.fa : Int)) = (s0 : Int) := by rw [hs0]; split <;> omega
          have hfm2 : min ((f.l.length : Int) - (f.fa : Int)) (k : Int) = (s0 : Int) := by rw [hs0]; omega
          have hcap : ((f.fa : Int) + (s0 : Int)) ≤ (vc : Int) := by omega
          have htr : trP k P[i] = ⟨f.nm, f.l.take (f.fa + s0), f.fa⟩ := by rw [← hfp, hs0]; rfl
          have hln2 : lenP (tearI k (i + 1) P) = lenP (tearI k i P) - (f.l.length - f.fa - s0) := by
            rw [hnx, lenP_append, lenP_cons, htr, hln, ← e1]
            simp only [List.length_take]
            omega
          have HE2 : Hid (∀ wd, Below wr.heap.size wr wd → wd.heap.size = wr.heap.size → ∃ G', G'.map Fl.pl = tearI k (i + 1) P ∧
              Dv ((wd.setCell ⟨f.b, 0, none⟩ (.slice (some ⟨g2, 0, none⟩) (f.fa + s0) (f.fa + s0))).setCell ⟨db, 1, none⟩ (.int .i64 ((lenP (tearI k i P) : Int) - (((f.l.length : Int) - (f.fa : Int)) - (s0 : Int))))) X db mb sz (lenP (tearI k (i + 1) P)) pw lf G' ∧
              Wx X wr ((wd.setCell ⟨f.b, 0, none⟩ (.slice (some ⟨g2, 0, none⟩) (f.fa + s0) (f.fa + s0))).setCell ⟨db, 1, none⟩ (.int .i64 ((lenP (tearI k i P) : Int) - (((f.l.length : Int) - (f.fa : Int)) - (s0 : Int)))))) := by
            intro wd hb hsame
            have hDd := hDr.below hb
            have hrow := hDd.fs.row f hf
            rw [ev] at hrow
            have k1 : Wx (fun i => i = f.b) wd (wd.setCell ⟨f.b, 0, none⟩ (.slice (some ⟨g2, 0, none⟩) (f.fa + s0) (f.fa + s0))) := Wx.set wd 0 _ rfl
            have hb1 : (wd.setCell ⟨f.b, 0, none⟩ (.slice (some ⟨g2, 0, none⟩) (f.fa + s0) (f.fa + s0))).heap[db]? = some (.cells #[.int .i64 sz, .int .i64 (lenP (tearI k i P)), .map (some mb), .int .i64 pw, .int .i64 lf] 59 (0, 0)) := k1.blk (fun e => n1 e.symm) hDd.blk
            obtain ⟨q1, q2⟩ := hDd.turn hf (k1.more fun i hi => Or.inl (Or.inl hi)) (heap_setCell_same _ f.b 0 _ _ (.slice (some ⟨g2, 0, none⟩) (f.fa + s0) (f.fa + s0)) (hDd.fs.blk f hf)) ((hrow.cut hs1 (Nat.le_refl _) (by omega)).wx k1 fun g e eg => n3 (by rw [ev, own_slice _ _ vc (f.fa + s0) (f.fa + s0), e, eg])) (by rw [List.length_take]; omega) (Or.inl (by rw [ev]; rfl)) (Wx.set (X := fun i => i = db) _ 1 (.int .i64 ((lenP (tearI k i P) - (f.l.length - f.fa - s0) : Nat) : Int)) (k := db) rfl) (u' := lenP (tearI k i P) - (f.l.length - f.fa - s0)) (heap_setCell_same _ db 1 _ _ _ hb1)
            rw [hu1]
            have hss : ((wd.setCell ⟨f.b, 0, none⟩ (.slice (some ⟨g2, 0, none⟩) (f.fa + s0) (f.fa + s0))).setCell ⟨db, 1, none⟩ (.int .i64 ((lenP (tearI k i P) - (f.l.length - f.fa - s0) : Nat) : Int))).heap.size = wd.heap.size := by simp
            rw [nxt_same hss] at q1
            rw [← hln2] at q1
            refine ⟨_, ?_, by rw [← hln2]; exact q1, by rw [← hln2]; rw [← hln2] at q2; exact (Wx.of_below _ hb).trans q2 fun i hi => Or.inl hi⟩
            rw [set_one hDr.fs hf (f.l.take (f.fa + s0)) f.fa (.slice (some ⟨g2, 0, none⟩) (f.fa + s0) (f.fa + s0)) (trP k) (by rw [hfp]; exact htr), hG, hnm, hset, hnx]
          have HK : Hid (∀ w4, Wx X wr w4 → (w4.ownsRow w1.heap.size 9 1 u5 (tornP (P.take i)).length ((tornP (P.take i)).map encStr) ∧ w4.ownsRow w.heap.size 9 1 (.slice (some ⟨g, 0, none⟩) P.length nc) P.length ((P.map Pl.nm).map encStr))) := fun w4 hx => by
            refine ⟨row_wx htn hx fun g e hx => ?_, row_wx hrw hx fun g' e hx => ?_⟩
            · have := (htn.lt g e).1
              have := HX.out g hx
              have := HB1.out.size
              omega
            · have e' : g = g' := by simpa [Value.ownBlock] using e
              rw [← e'] at hx
              exact hgX hx
          have HF2 : Hid (∀ w4 w6 o G', Wx X wr w4 → Dv w4 X db mb sz (lenP (tearI k (i + 1) P)) pw lf G' → (w4.alloc o).grownBy w6 u5.ownBlock → Dv w6 X db mb sz (lenP (tearI k (i + 1) P)) pw lf G' ∧ Wx X w w6 ∧ w1.heap.size ≤ w6.heap.size ∧ w6.ownsRow w.heap.size 9 1 (.slice (some ⟨g, 0, none⟩) P.length nc) P.length ((P.map Pl.nm).map encStr)) := fun w4 w6 o G' hx hd hg => by
            have hu5 : ∀ q, u5.ownBlock = some q → w1.heap.size ≤ q := fun q e => (htn.lt q e).1
            have k6 : Wx (fun q => u5.ownBlock = some q) w4 w6 := (Wx.alloc _ w4 o).trans (Wx.grown hg fun q e => e) fun q hq => Or.inl hq
            refine ⟨hd.wx k6 fun q hq e => ?_, (hxr.trans hx fun q hq => Or.inl hq).trans k6 fun q hq => ?_, by have := hx.size; have := k6.size; omega, row_wx (HK.out w4 hx).2 k6 fun q e hq => ?_⟩
            · have := hu5 q e
              have := HX.out q hq
              have := HB1.out.size
              omega
            · have := hu5 q hq
              have := HB1.out.size
              exact Or.inr (by omega)
            · have := hu5 q hq
              have e' : g = q := by simpa [Value.ownBlock] using e
              have hg1' := (HR.out.lt g (by rfl)).2
              omega
          have HN1 : Hid (tornP (P.take (i + 1)) = tornP (P.take i) ++ [P[i].nm]) := htorn
          have hti : (tornP (P.take i)).length ≤ i := by
            unfold tornP
            rw [List.length_map]
            exact Nat.le_trans (List.length_filter_le _ _) (by rw [List.length_take]; omega)
          have HTI := hide_p hti
          rw [ev] at b0
          have hsr' := hsr
          have hf1 : (f.l.length : Int) ≤ 1000000000 := by omega
          have hf2 : (f.fa : Int) ≤ (f.l.length : Int) := by omega
          have hs2 : (f.fa : Int) + (s0 : Int) ≤ (f.l.length : Int) := by omega
          have hu2 : (lenP (tearI k i P) : Int) ≤ 1000000000 := by omega
          have hu3 : (f.l.length : Int) ≤ (lenP (tearI k i P) : Int) := by omega
          have hki : (k : Int) ≤ 9223372036854775807 := by omega
          clear htn hG hDr hxr hsr hrw HI hat hnx htx hlp hln hset htot hlf hfp hf hnm n2 n3 hfrow hgX ev htorn hA hB HNl HF HO HX HD HE HR HB1 e1 e2 d hfa hnl hu1 htr hln2 hs1 hU0 hg2b r1 r2 r3 r4 hti hs0
          have n1' : ¬ db = f.b := fun e => n1 e.symm
          generalize f.b = fb at *
          generalize f.l.length = fl at *
          generalize f.fa = ffa at *
          generalize lenP (tearI k i P) = ui at *
          have ci : (i : Int) < (P.length : Int) := by omega
          go_wp2_with fail
          go_region
          go_wp2_with fail
          go_region
          go_upto_region 11 with fail
          obtain ⟨G', hG', hD4, hk4⟩ := HE2.out wr (Below.refl _ _) rfl
          have HQ : Hid (Dv ((wr.setCell ⟨fb, 0, none⟩ (.slice (some ⟨g2, 0, none⟩) (ffa + s0) (ffa + s0))).setCell ⟨db, 1, none⟩ (.int .i64 ((ui : Int) - (((fl : Int) - (ffa : Int)) - (s0 : Int))))).drew.drew X db mb sz (lenP (tearI k (i + 1) P)) pw lf G' ∧ Wx X wr ((wr.setCell ⟨fb, 0, none⟩ (.slice (some ⟨g2, 0, none⟩) (ffa + s0) (ffa + s0))).setCell ⟨db, 1, none⟩ (.int .i64 ((ui : Int) - (((fl : Int) - (ffa : Int)) - (s0 : Int))))).drew.drew) :=
            ⟨hD4.below ((Below.refl _ _).drew.drew), hk4.trans (Wx.of_below _ ((Below.refl _ _).drew.drew)) fun i hi => Or.inl hi⟩
          clear hD4 hk4 HE2
          generalize ((wr.setCell ⟨fb, 0, none⟩ (.slice (some ⟨g2, 0, none⟩) (ffa + s0) (ffa + s0))).setCell ⟨db, 1, none⟩ (.int .i64 ((ui : Int) - (((fl : Int) - (ffa : Int)) - (s0 : Int))))).drew.drew = w4 at HQ ⊢
          have HRW := hide_p (HK.out w4 HQ.out.2)
          have HBS : Hid (w1.heap.size ≤ w4.heap.size) := Nat.le_trans hsr' HQ.out.2.size
          have HG := hide_p hG'
          have HL1 : Hid ((tornP (P.take i)).length + 1 ≤ maxLen ∧ ((tornP (P.take i)).length + 1) * 16 ≤ 140737488355328) := by
            have := HTI.out
            refine ⟨?_, by omega⟩
            unfold maxLen; omega
          clear hG' b0 b1 bz c0 c1 c2 c3 c4 fz hlu hci HK hfm hfm2
          go_wp2_with (at_builtin; refine wpList_append_lies _ rfl _ _ 60 rfl w1.heap.size 9 is _ 1 16 Try.underlying60 his hzs hss hbys rfl (by decide) _ _ _ rfl (HRW.out.1.alloc _) ⟨w4.heap.size, 0, none⟩ 1 1 [encStr P[i].nm] rfl rfl (World.news_of_block (heap_alloc_new w4 _)) (by intro u hu; simp at hu; subst hu; rfl) (by omega) HL1.out.1 HL1.out.2 (by have := HBS.out; simp; omega) _ rfl ?_; intro g6 c6 w6 q1 q2 q3 q4; have HQ6 : Hid (_ ∧ _) := ⟨q1, q2⟩; clear q1 q2 q3 q4)
          go_roundg (P.length - (i + 1))
          case measure => omega
          case rel =>
            obtain ⟨q1, q2⟩ := HQ6.out
            obtain ⟨r1, r2, r3, r4⟩ := HF2.out w4 w6 _ G' HQ.out.2 HQ.out.1 q2
            exact ⟨i + 1, _, G', by go_num, rfl, by omega, ⟨rfl, by rw [HN1.out, List.length_append, List.map_append]; exact q1, HG.out, r1, r2, r3, r4⟩⟩
    · have hie : i = P.length := by omega
      subst hie
      have hI := HI.out
      rw [List.take_length, tearI_end] at hI
      have HQ := hide_p hI.2
      have HB := hide_p (Nat.le_trans HB1.out.size (Nat.le_refl w1.heap.size))
      clear hI HI
      go_wp2
      go_ret
      obtain ⟨h1, h2, h3, h4, h5, h6⟩ := HQ.out
      exact ⟨_, _, rfl, ownsRow_base_a h1 HB.out, h2, h3, h4⟩

end Go.Proofs.Ytgkgflkcnigeaaa
