/-
  Layer 20: the landed disk: a crash.
-/
import Derived.Test.YtgkgflkcnigeaaaDkTear
namespace Go.Proofs.Ytgkgflkcnigeaaa
set_option maxRecDepth 100000
open Go.RowKit Txt Go.Maps Dk

namespace Dk
def layT (sz : Nat) (tail : List Nat) (P : List Pl) (s : List UInt8) : List Pl := layP P s (tail.take (min tail.length (sz - lenP P)))
def fastP (f : Pl) : Pl := ⟨f.nm, f.l, f.l.length⟩
def crashP (S : Ps) (keep : Int) (tail : List Nat) : Ps := ⟨S.sz, 0, 0, ((tornP S.P).foldl (layT S.sz tail) (tearP keep.toNat S.P)).map fastP⟩

theorem layP_names (P : List Pl) (s : List UInt8) (l : List Nat) : ∀ f ∈ layP P s l, f.nm = s ∨ ∃ g ∈ P, g.nm = f.nm := by
  intro f hf
  unfold layP at hf
  cases e : lookP P s with
  | some g =>
    rw [e] at hf
    obtain ⟨q, hq, rfl⟩ := List.mem_map.1 hf
    refine Or.inr ⟨q, hq, ?_⟩
    split <;> rfl
  | none =>
    rw [e] at hf
    have : ∀ {Q : List Pl}, f ∈ insP ⟨s, l, 0⟩ Q → f.nm = s ∨ ∃ g ∈ Q, g.nm = f.nm := by
      intro Q
      induction Q with
      | nil => intro h; simp [insP] at h; rw [h]; exact Or.inl rfl
      | cons g r ih =>
        intro h
        unfold insP at h
        split at h
        · rcases List.mem_cons.1 h with h | h
          · rw [h]; exact Or.inl rfl
          · exact Or.inr ⟨f, h, rfl⟩
        · rcases List.mem_cons.1 h with h | h
          · exact Or.inr ⟨g, List.mem_cons_self, by rw [h]⟩
          · rcases ih h with h | ⟨k, hk, e⟩
            · exact Or.inl h
            · exact Or.inr ⟨k, List.mem_cons_of_mem _ hk, e⟩
    exact this hf
theorem BR.first {w : World} {a : Option Addr} {n cap m : Nat} {l : List Nat} (h : BR w (.slice a n cap) l) (hm : m ≤ l.length) : BR w (.slice a m cap) (l.take m) := by
  obtain ⟨h1, a', cap', e, h3, h4, h5⟩ := h
  simp only [Value.slice.injEq] at e
  obtain ⟨rfl, rfl, rfl⟩ := e
  have hl : (l.take m).length = m := by rw [List.length_take]; omega
  refine ⟨h1.take m, a, cap, by rw [hl], by omega, h4, ?_⟩
  rcases h5 with c | ⟨x, e, hc⟩
  · exact Or.inl c
  · refine Or.inr ⟨x, e, fun i hi => ?_⟩
    rw [hl] at hi
    rw [hc i (by omega), List.getD_eq_getElem?_getD, List.getD_eq_getElem?_getD, List.getElem?_take, if_pos hi]
/-- Files whose key is no longer left have their bytes fast. -/
def Gl (left : Lit → Bool) (G : List Fl) : List Fl := G.map fun f => if left (.string f.nm) then f else { f with fa := f.l.length }
theorem Gl_df (left : Lit → Bool) (G : List Fl) : DF (Gl left G) = DF G := by
  unfold DF Gl
  rw [List.map_map]
  congr 1
  refine List.map_congr_left fun f hf => ?_
  show ent (if left (.string f.nm) then f else _) = ent f
  split <;> rfl
theorem Gl_start (G : List Fl) : Gl (Maps.has (DF G)) G = G := by
  unfold Gl
  conv => rhs; rw [← List.map_id G]
  refine List.map_congr_left fun f hf => ?_
  have : Maps.has (DF G) (.string f.nm) = true := by
    refine List.any_eq_true.2 ⟨ent f, List.mem_map.2 ⟨f, hf, rfl⟩, ?_⟩
    simp [ent, Lit.sameKey]
  rw [this]; rfl
theorem Gl_end {left : Lit → Bool} (h : ∀ kl, left kl = false) (G : List Fl) : (Gl left G).map Fl.pl = (G.map Fl.pl).map fastP := by
  unfold Gl
  rw [List.map_map, List.map_map]
  refine List.map_congr_left fun f hf => ?_
  show Fl.pl (if left (.string f.nm) then f else _) = fastP f.pl
  rw [h]; rfl
theorem lenP_fast (P : List Pl) : lenP (P.map fastP) = lenP P := by
  unfold lenP
  rw [List.map_map]; rfl
theorem Gl_len (left : Lit → Bool) (G : List Fl) : (Gl left G).length = G.length := by unfold Gl; rw [List.length_map]
theorem Gl_next {w : World} {mb : Nat} {G : List Fl} {left : Lit → Bool} (h : Fs w mb (Gl left G)) {f : Fl} (hf : f ∈ Gl left G) : setF (Gl left G) f.nm (fun g => { g with l := f.l, fa := f.l.length, v := f.v }) = Gl (fun z => left z && !z.sameKey (.string f.nm)) G := by
  unfold setF
  unfold Gl
  rw [List.map_map]
  refine List.map_congr_left fun g hg => ?_
  have hm : (if left (.string g.nm) then g else { g with fa := g.l.length } : Fl) ∈ Gl left G := List.mem_map.2 ⟨g, hg, rfl⟩
  have hn : (if left (.string g.nm) then g else { g with fa := g.l.length } : Fl).nm = g.nm := by split <;> rfl
  show (if (if left (.string g.nm) then g else { g with fa := g.l.length } : Fl).nm = f.nm then _ else _) = _
  rw [hn]
  by_cases c : g.nm = f.nm
  · rw [if_pos c]
    have e := h.nm_inj hm hf (by rw [hn, c])
    have e1 : (Lit.string g.nm).sameKey (.string f.nm) = true := by simp [Lit.sameKey, c]
    simp only [e1, Bool.not_true, Bool.and_false, Bool.false_eq_true, if_false]
    rw [← e]
    split <;> rfl
  · rw [if_neg c]
    have e1 : (Lit.string g.nm).sameKey (.string f.nm) = false := by simp [Lit.sameKey, c]
    simp only [e1, Bool.not_false, Bool.and_true]
/-- The file that comes next in a range. -/
theorem next_file {G : List Fl} {x : List UInt8} {c : Option Nat} {y : DataW Unit × List MemPlace} (hR : ptrR (.pointer (c.map fun b => ⟨b, 0, none⟩)) = some y) (hat : ∀ zd, (DF G).atKey (.string x) zd = y.1) : ∃ f ∈ G, f.nm = x ∧ c = some f.b := by
  have h0 := hat .nil
  rw [df_at] at h0
  cases e : lookF G x with
  | some f =>
    rw [e] at h0
    obtain ⟨hf, hn⟩ := lookF_some e
    obtain ⟨y1, y2⟩ := y
    simp only at h0
    subst h0
    have := ptrR_inv hR
    cases c with
    | none => cases this
    | some b =>
      simp at this
      exact ⟨f, hf, hn, by rw [this]⟩
  | none =>
    exfalso
    have h1 := hat (.lit (.bool true))
    rw [e] at h0
    simp only at h0
    rw [← h0] at h1
    have hno := lookF_none e
    unfold DF DataW.atKey at h1
    have : (G.map ent).find? (fun p => p.1.sameKey (.string x)) = none := by
      rw [List.find?_eq_none]
      intro p hp
      obtain ⟨g, hg, rfl⟩ := List.mem_map.1 hp
      simpa [ent, Lit.sameKey] using hno g hg
    simp only [this] at h1
    cases h1
theorem lay_names {P : List Pl} {s : List UInt8} {l : List Nat} (h : s ∈ P.map Pl.nm) : (layP P s l).map Pl.nm = P.map Pl.nm := by
  unfold layP
  cases e : lookP P s with
  | none =>
    obtain ⟨f, hf, hn⟩ := List.mem_map.1 h
    exact absurd hn (lookP_none e f hf)
  | some f =>
    show (setP P s _).map Pl.nm = _
    unfold setP
    rw [List.map_map]
    refine List.map_congr_left fun g hg => ?_
    show Pl.nm (if g.nm = s then _ else g) = g.nm
    split <;> rfl
theorem fold_names {sz : Nat} {tail : List Nat} : ∀ (T : List (List UInt8)) (P : List Pl), (∀ s ∈ T, s ∈ P.map Pl.nm) → (T.foldl (layT sz tail) P).map Pl.nm = P.map Pl.nm
  | [], _, _ => rfl
  | s :: r, P, h => by
    have e : (layT sz tail P s).map Pl.nm = P.map Pl.nm := lay_names (h s List.mem_cons_self)
    show (r.foldl (layT sz tail) (layT sz tail P s)).map Pl.nm = _
    rw [fold_names r _ fun t ht => by rw [e]; exact h t (List.mem_cons_of_mem _ ht), e]
theorem fold_next {sz : Nat} {tail : List Nat} {T : List (List UInt8)} {P : List Pl} {i : Nat} (h : i < T.length) : (T.take (i + 1)).foldl (layT sz tail) P = layT sz tail ((T.take i).foldl (layT sz tail) P) T[i] := by
  rw [List.take_add_one, List.getElem?_eq_getElem h, List.foldl_append]; rfl
theorem tear_same (k : Nat) (P : List Pl) : (tearP k P).map Pl.nm = P.map Pl.nm := by
  unfold tearP
  rw [List.map_map]; rfl
theorem torn_mem {P : List Pl} {s : List UInt8} (h : s ∈ tornP P) : s ∈ P.map Pl.nm := by
  obtain ⟨f, hf, rfl⟩ := List.mem_map.1 h
  exact List.mem_map.2 ⟨f, (List.mem_filter.1 hf).1, rfl⟩
theorem tear_le (k : Nat) : ∀ A : List Pl, lenP (tearP k A) ≤ lenP A
  | [] => Nat.le_refl _
  | f :: r => by
    have e : tearP k (f :: r) = trP k f :: tearP k r := rfl
    rw [e, lenP_cons, lenP_cons]
    have h1 : (trP k f).l.length ≤ f.l.length := by unfold trP; rw [List.length_take]; omega
    have := tear_le k r
    omega
def ptrV (c : Option Nat) : Value := .pointer (c.map fun b => ⟨b, 0, none⟩)
end Dk

set_option maxHeartbeats 4000000 in
theorem crash_any (X : Nat → Prop) (db : Nat) (S : Ps) (keep : Int) (v : Value) (tail : List Nat) (w : World) (h : Dsk w X db S) (hk : keep ≤ 9223372036854775807) (hv : BR w v tail) (hvx : ∀ w', Wx X w w' → BR w' v tail) (hl : S.P.length ≤ 1000000000) :
    Calls Try.prog 16 #[.pointer (some ⟨db, 0, none⟩), .int .i64 keep, v] w fun e w' => e = .returned (.tuple #[]) ∧ Dsk w' (nxt X w w') db (crashP S keep tail) ∧ Wx X w w' := by
  have mixed : Try.prog.follows Departure.mixedOrders = true := by kernel_rfl
  obtain ⟨mb, F, eF, hD⟩ := h.lies
  obtain ⟨va, vc, rfl, -⟩ := br_src hv
  have hrm := h.room
  have hsz := h.size
  have HVC : Hid (tail.length ≤ vc) := by
    obtain ⟨_, a', cap', e, h3, _⟩ := hv
    simp only [Value.slice.injEq] at e
    obtain ⟨-, -, e3⟩ := e
    show _ ≤ _
    omega
  obtain ⟨K, hK⟩ : ∃ K, K = keep.toNat := ⟨_, rfl⟩
  have hKl : K ≤ 9223372036854775807 := by omega
  have htr := tear_any X db mb S.sz S.pw S.lf S.P F K w eF hD hl (by omega) hKl
  have hmx : ∀ ts t (w : World), (Builtin.max_ ts t #[.int .i64 keep, .int .i64 0]).run Try.prog w = .ok (.int .i64 (K : Int)) w := fun ts t w => by
    rw [run_max_int2]
    have : (if (0 : Int) > keep then 0 else keep) = (K : Int) := by split <;> omega
    rw [this]
  have HC : Hid (crashP S keep tail = ⟨S.sz, 0, 0, ((tornP S.P).foldl (layT S.sz tail) (tearP K S.P)).map fastP⟩) := by rw [hK]; rfl
  have HSz : Hid (lenP S.P ≤ S.sz ∧ S.sz ≤ 67108864 ∧ S.P.length ≤ 1000000000) := ⟨hrm, hsz, hl⟩
  have HD := hide_p hD
  have HV := hide_p hvx
  generalize crashP S keep tail = R at *
  clear hK hKl hrm hsz hl hD h hv hvx eF
  go_enter Try.func16, Try.ntmps16
  go_wp2_with fail
  refine htr.mono ?_
  rintro e w1 ⟨tv, G, rfl, hrow, hG, hD1, hk1⟩
  clear htr hmx
  obtain ⟨ta, tc, rfl⟩ := owns_form hrow
  have HR := hide_p hrow
  have HG := hide_p hG
  have HD1 := hide_p hD1
  have HK1 := hide_p hk1
  clear hrow hG hD1 hk1
  go_wp2_with fail
  have HT : Hid (∀ s ∈ tornP S.P, s ∈ (tearP K S.P).map Pl.nm) := fun s hs => by rw [tear_same]; exact torn_mem hs
  have HX : Hid (∀ k, X k → k < w.heap.size) := HD.out.xlt
  have HP1 : Hid ((tearP K S.P).length = S.P.length ∧ lenP (tearP K S.P) ≤ S.sz) := ⟨by unfold tearP; rw [List.length_map], Nat.le_trans (tear_le _ _) HSz.out.1⟩
  have hTl : (tornP S.P).length ≤ 1000000000 := by
    unfold tornP
    rw [List.length_map]
    exact Nat.le_trans (List.length_filter_le _ _) HSz.out.2.2
  generalize tornP S.P = T at *
  generalize tearP K S.P = P1 at *
  generalize hTn : T.length = Tn at *
  go_loopg [17] Tn (fun m t17 wr => ∃ i : Nat, t17 = .int .i64 (i : Int) ∧ i ≤ Tn ∧ Hid (m = Tn - i ∧ ∃ Gi, Gi.map Fl.pl = (T.take i).foldl (layT S.sz tail) P1 ∧ Dv wr (nxt X w1 wr) db mb S.sz (lenP ((T.take i).foldl (layT S.sz tail) P1)) S.pw S.lf Gi ∧ Wx X w1 wr ∧ lenP ((T.take i).foldl (layT S.sz tail) P1) ≤ S.sz ∧ wr.ownsRow w.heap.size 9 1 (.slice ta Tn tc) Tn (T.map encStr)))
  case atStart => exact ⟨0, rfl, Nat.zero_le _, ⟨rfl, G, HG.out, HD1.out.grow (fun i hi => Or.inl hi) (nxt_lt HD1.out.xlt (Nat.le_refl _)), Wx.refl _ _, HP1.out.2, HR.out⟩⟩
  case round =>
    obtain ⟨i, rfl, hil, HI⟩ := hrel
    by_cases c : i < Tn
    · obtain ⟨hm, Gi, hGi, hDi, hki, hui, hrw⟩ := HI.out
      have ciT : i < T.length := by omega
      obtain ⟨g, gc, hgc, hg1, hg2⟩ := hrw.form (by omega)
      simp only [Value.slice.injEq, true_and] at hgc
      obtain ⟨rfl, rfl⟩ := hgc
      have hci : wr.cell? ⟨g, i, none⟩ = some (.string (bs T[i])) := by
        rw [hrw.cellAt i (by omega), List.getElem?_map, List.getElem?_eq_getElem ciT]; rfl
      have hnm := fold_names (sz := S.sz) (tail := tail) (T.take i) P1 fun s hs => HT.out s (List.mem_of_mem_take hs)
      have hin : T[i] ∈ ((T.take i).foldl (layT S.sz tail) P1).map Pl.nm := by rw [hnm]; exact HT.out _ (List.getElem_mem ciT)
      have hGl : Gi.length ≤ 1000000000 := by
        have e1 : Gi.length = (Gi.map Fl.pl).length := by rw [List.length_map]
        rw [hGi] at e1
        have e2 := congrArg List.length hnm
        rw [List.length_map, List.length_map] at e2
        have := HP1.out.1
        have := HSz.out.2.2
        omega
      have hsl : T[i].length ≤ 32 := by
        rw [← hGi, List.map_map] at hin
        obtain ⟨f, hf, hn⟩ := List.mem_map.1 hin
        rw [← hn]
        exact hDi.fs.nam f hf
      have hfx := fold_next (sz := S.sz) (tail := tail) (P := P1) ciT
      obtain ⟨Pi, hPi⟩ : ∃ Pi, Pi = (T.take i).foldl (layT S.sz tail) P1 := ⟨_, rfl⟩
      rw [← hPi] at hGi hDi hui hfx hin
      have hlt : ∀ k, nxt X w1 wr k → k < wr.heap.size := hDi.xlt
      have hroom := room_any (nxt X w1 wr) db mb S.sz (lenP Pi) S.pw S.lf Gi wr hDi hui HSz.out.2.1
      obtain ⟨m, hm0⟩ : ∃ m, m = min tail.length (S.sz - lenP Pi) := ⟨_, rfl⟩
      have hmn : min (tail.length : Int) ((S.sz : Int) - (lenP Pi : Int)) = (m : Int) := by omega
      have hmt : (m : Int) ≤ (tail.length : Int) := by omega
      have hmv : m ≤ vc := by have := HVC.out; omega
      have hlay : ∀ w2, Below wr.heap.size wr w2 → Calls Try.prog 33 #[.pointer (some ⟨db, 0, none⟩), .string (bs T[i]), .slice va m vc] w2 fun e w' => e = .returned (.tuple #[]) ∧ ∃ Gj, Gj.map Fl.pl = (T.take (i + 1)).foldl (layT S.sz tail) P1 ∧ Dv w' (nxt X w1 w') db mb S.sz (lenP ((T.take (i + 1)).foldl (layT S.sz tail) P1)) S.pw S.lf Gj ∧ Wx X w1 w' ∧ lenP ((T.take (i + 1)).foldl (layT S.sz tail) P1) ≤ S.sz ∧ w'.ownsRow w.heap.size 9 1 (.slice (some ⟨g, 0, none⟩) Tn tc) Tn (T.map encStr) := by
        intro w2 hb
        have hgX : ¬ nxt X w1 wr g := by
          have h1 := (HR.out.lt g rfl).2
          rintro (hx | hx)
          · have := HX.out g hx
            omega
          · omega
        have k2 : Wx X w w2 := (HK1.out.trans hki fun i hi => Or.inl hi).trans (Wx.of_below _ hb) fun i hi => Or.inl hi
        have hws := HK1.out.size
        have k3 : ∀ w', Wx (nxt X w1 wr) w2 w' → Wx X w w' := fun w' k => k2.trans k fun i hi => by
          rcases hi with hi | hi
          · exact Or.inl hi
          · exact Or.inr (by omega)
        have htl : (tail.take m).length = m := by rw [List.length_take]; omega
        have hsz := HSz.out.2.1
        have hll := lenP_lay (P := Pi) (s := T[i]) (tail.take m) (by rw [← hGi]; exact hDi.fs.ordP)
        have hfx' : (T.take (i + 1)).foldl (layT S.sz tail) P1 = layP Pi T[i] (tail.take m) := by rw [hfx]; unfold layT; rw [hm0]
        refine (lay_any (nxt X w1 wr) db mb S.sz (lenP Pi) S.pw S.lf Gi T[i] (.slice va m vc) (tail.take m) w2 (hDi.below hb) hsl (BR.first (HV.out w2 k2) (by omega)) (fun w' k => BR.first (HV.out w' (k3 w' k)) (by omega)) hGl (by rw [htl]; omega) (fun f hf => ?_)).mono ?_
        · have h1 : f.pl ∈ Pi := by rw [← hGi]; exact List.mem_map.2 ⟨f, hf, rfl⟩
          have h2 := lenP_mem h1
          have h5 : f.pl.l.length = f.l.length := rfl
          omega
        · rintro e w' ⟨he, Gj, hGj, hDj, hkj⟩
          rw [hGi] at hGj
          rw [htl] at hll hDj
          have kk : Wx (nxt X w1 wr) wr w' := (Wx.of_below _ hb).trans hkj fun i hi => Or.inl hi
          refine ⟨he, Gj, by rw [hfx']; exact hGj, ?_, ?_, by rw [hfx', hll]; omega, row_wx hrw kk fun q e hq => ?_⟩
          · rw [hfx', hll]
            refine hDj.grow (fun q hq => ?_) (fun q hq => ?_)
            · rcases hq with (hq | hq) | hq
              · exact Or.inl hq
              · exact Or.inr ⟨hq.1, by have := kk.size; omega⟩
              · exact Or.inr ⟨by have := hb.size; have := hki.size; omega, hq.2⟩
            · rcases hq with hq | hq
              · exact Nat.lt_of_lt_of_le (HD1.out.xlt q hq) (Nat.le_trans hki.size kk.size)
              · exact hq.2
          · exact hki.trans kk fun q hq => by
              rcases hq with hq | hq
              · exact Or.inl hq
              · exact Or.inr hq.1
          · have e' : g = q := by simpa [Value.ownBlock] using e
            rw [← e'] at hq
            exact hgX hq
      have HLY := hide_p hlay
      have hU1 : (lenP Pi : Int) ≤ (S.sz : Int) := by omega
      clear hlay hki hrw hGi hDi hnm hin hGl hsl hfx hPi hui hlt HI hg1 hg2 hm0
      have ci : (i : Int) < (Tn : Int) := by omega
      have hTi : (Tn : Int) ≤ 1000000000 := by omega
      generalize bs T[i] = SS at *
      generalize lenP Pi = ui at *
      generalize tail.length = tl at *
      go_wp2_with fail
      refine hroom.mono ?_
      rintro e w2 ⟨rfl, nn, rfl⟩
      have hly := HLY.out _ (dr_below wr nn)
      clear hroom HLY
      go_wp2_with fail
      refine hly.mono ?_
      rintro e w3 ⟨rfl, Gj, q1, q2, q3, q4, q5⟩
      have HQ : Hid (_ ∧ _ ∧ _ ∧ _ ∧ _) := ⟨q1, q2, q3, q4, q5⟩
      clear q1 q2 q3 q4 q5 hly
      go_wp2_with fail
      go_roundg (Tn - (i + 1))
      case measure => omega
      case rel => exact ⟨i + 1, by go_num, by omega, ⟨rfl, Gj, HQ.out⟩⟩
    · have hie : i = Tn := by omega
      subst hie
      have hI := HI.out.2
      rw [List.take_of_length_le (by omega : T.length ≤ i)] at hI
      obtain ⟨G3, hG3, hD3, hk3, hu3, -⟩ := hI
      generalize hP3 : T.foldl (layT S.sz tail) P1 = P3 at *
      obtain ⟨⟨c0, c1, c2, c3, c4⟩, fz⟩ := hD3.cells
      have HM := hide_p hD3.fs.map
      have HD3 := hide_p hD3
      have HW3 : Hid (Wx X w wr) := HK1.out.trans hk3 fun q hq => Or.inl hq
      have HG3 := hide_p hG3
      have HU3 := hide_p hu3
      have HR3 : Hid (R = ⟨S.sz, 0, 0, P3.map fastP⟩) := HC.out
      have HWS : Hid (w.heap.size ≤ w1.heap.size) := HK1.out.size
      clear hD3 hk3 hG3 hu3 HI HC HK1 HD1 HG HR HT HP1 HV HD HVC
      go_wp2_with (at_range; refine wpList_range_own _ rfl _ 56 rfl 9 64 keyed Try.underlying56 ptrR mb G3.length (DF G3) rfl HM.out ?_; intro w4 hrg0 hg0 hs0)
      go_frame
      obtain ⟨rr, hrr⟩ : ∃ rr, rr = wr.heap.size := ⟨_, rfl⟩
      have HX3 : Hid (∀ k, nxt X w1 wr k → k < rr) := by rw [hrr]; exact HD3.out.xlt
      obtain ⟨X3, hX3⟩ : ∃ X3, X3 = nxt X w1 wr := ⟨_, rfl⟩
      have HXX : Hid (∀ k, X3 k → X k ∨ w.heap.size ≤ k) := fun k hk => by
        rw [hX3] at hk
        rcases hk with hk | hk
        · exact Or.inl hk
        · have := HWS.out
          exact Or.inr (by omega)
      have HXY : Hid (∀ k, X k → X3 k) := fun k hk => by rw [hX3]; exact Or.inl hk
      rw [← hX3] at HD3 HX3
      rw [← hrr] at hrg0 hs0 ⊢
      have HB4 : Hid (Below wr.heap.size wr w4) := (Below.refl _ _).grown hg0 (Nat.le_refl _) fun k hk => by cases hk
      have HD4 : Hid (Dv w4 X3 db mb S.sz (lenP P3) S.pw S.lf G3) := HD3.out.below HB4.out
      have HW4 : Hid (Wx X w w4) := HW3.out.trans (Wx.of_below _ HB4.out) fun q hq => Or.inl hq
      have HRG := hide_p hrg0
      have HRW : Hid (rr < w4.heap.size ∧ w.heap.size ≤ rr) := ⟨by omega, by have := HW3.out.size; omega⟩
      clear hrg0 hg0 hs0 HB4 HD3 HW3 HM c0 c1 c2 c3 c4 fz hX3 hrr
      go_loopg [10] (Maps.size (DF G3)) (fun m t10 ws => ∃ (left : Lit → Bool) (cnt : Nat) (tv : Value), t10 = tv ∧ Hid (m = cnt ∧ ws.ranges Try.prog 9 ptrR mb rr G3.length (DF G3) left cnt ∧ Dv ws X3 db mb S.sz (lenP P3) S.pw S.lf (Gl left G3) ∧ Wx X w ws))
      case atStart => exact ⟨_, _, _, rfl, ⟨rfl, HRG.out, by rw [Gl_start]; exact HD4.out, HW4.out⟩⟩
      case round =>
        obtain ⟨left, cnt, tv, rfl, HI⟩ := hrel
        go_wp2_with (at_next; refine wpList_next_ranges _ rfl _ rfl 9 keyed ptrR encStr ptrV (fun key kl h => by obtain ⟨x, hx, _⟩ := Maps.keyOf_str Try.underlying9 h; exact ⟨x, hx⟩) (fun v y h => ptrR_form h) mb rr G3.length (DF G3) left cnt rfl HI.out.2.1 ?_ ?_)
        · intro hc0 hl0
          obtain ⟨-, hrg, hD5, hw5⟩ := HI.out
          obtain ⟨⟨c0, c1, c2, c3, c4⟩, fz⟩ := hD5.cells
          have HE : Hid (Dsk ((wr.setCell ⟨db, 3, none⟩ (.int .i64 0)).setCell ⟨db, 4, none⟩ (.int .i64 0)) (nxt X w ((wr.setCell ⟨db, 3, none⟩ (.int .i64 0)).setCell ⟨db, 4, none⟩ (.int .i64 0))) db R ∧ Wx X w ((wr.setCell ⟨db, 3, none⟩ (.int .i64 0)).setCell ⟨db, 4, none⟩ (.int .i64 0))) := by
            have k : Wx (fun i => i = db) wr ((wr.setCell ⟨db, 3, none⟩ (.int .i64 0)).setCell ⟨db, 4, none⟩ (.int .i64 0)) := (Wx.set (X := fun i => i = db) wr 3 (.int .i64 0) (k := db) rfl).trans (Wx.set (X := fun i => i = db) _ 4 (.int .i64 0) (k := db) rfl) fun i hi => Or.inl hi
            have hd := hD5.set k (heap_setCell_same _ db 4 _ _ _ (heap_setCell_same _ db 3 _ _ (.int .i64 0) hD5.blk))
            have hx := hw5.trans k fun i hi => (HXX.out i (by rw [hi]; exact hD5.xd))
            have e1 := lenP_fast P3
            rw [HR3.out]
            refine ⟨⟨⟨mb, Gl left G3, by rw [Gl_end hl0, HG3.out], ?_⟩, by show lenP (P3.map fastP) ≤ S.sz; rw [e1]; exact HU3.out, HSz.out.2.1, Or.inl rfl, Int.le_refl _, by show (0 : Int) ≤ _; omega⟩, hx⟩
            show Dv _ _ db mb S.sz (lenP (P3.map fastP)) 0 0 _
            rw [e1]
            exact hd.grow (fun q hq => by
              rcases HXX.out q hq with c | c
              · exact Or.inl c
              · exact Or.inr ⟨c, hd.xlt q hq⟩) (nxt_lt HX.out hx.size)
          clear hrg hD5 hw5 HI
          go_wp2
          go_end0
          exact ⟨rfl, HE.out⟩
        · intro x c kl y ps w5 cnt1 hkx hlk hR hat hrg1 hlt hg1 hs1 hen
          obtain ⟨hm5, hrg, hD5, hw5⟩ := HI.out
          have ekl : kl = .string x := by
            obtain ⟨x', e1, e2, -⟩ := Maps.keyOf_str Try.underlying9 hkx
            rw [e2, encStr_inj e1]
          subst ekl
          have hat' := hat
          rw [← Gl_df left G3] at hat'
          obtain ⟨f, hf, hfn, rfl⟩ := next_file (y := (y, ps)) hR hat'
          have kr : Wx (fun q => q = rr) wr w5 := Wx.grown hg1 fun q e => by simpa using e.symm
          have hD6 := hD5.wx kr fun q hq e => by have := HX3.out q hq; omega
          obtain ⟨b0, b1, bz, n1, n2, n3⟩ := hD6.file hf
          obtain ⟨fa, fc, ev, -, -, -⟩ := (hD6.fs.row f hf).form
          have HE : Hid ((w5.setCell ⟨f.b, 1, none⟩ (.int .i64 (f.l.length : Nat))).ranges Try.prog 9 ptrR mb rr G3.length (DF G3) (fun z => left z && !z.sameKey (.string x)) cnt1 ∧ Dv (w5.setCell ⟨f.b, 1, none⟩ (.int .i64 (f.l.length : Nat))) X3 db mb S.sz (lenP P3) S.pw S.lf (Gl (fun z => left z && !z.sameKey (.string x)) G3) ∧ Wx X w (w5.setCell ⟨f.b, 1, none⟩ (.int .i64 (f.l.length : Nat)))) := by
            have k1 : Wx (fun i => i = f.b) w5 (w5.setCell ⟨f.b, 1, none⟩ (.int .i64 (f.l.length : Nat))) := Wx.set w5 1 _ rfl
            obtain ⟨r1, r2⟩ := hD6.turn1 hf (k1.more fun i hi => Or.inl (Or.inl hi)) (heap_setCell_same _ f.b 1 _ _ _ (hD6.fs.blk f hf)) ((hD6.fs.row f hf).wx k1 fun g e eg => n3 (by rw [e, eg])) (Nat.le_refl _) (Or.inl rfl)
            rw [Gl_next hD6.fs hf, hfn] at r1
            rw [nxt_same (by simp)] at r1
            have hgb : w5.grownBy (w5.setCell ⟨f.b, 1, none⟩ (.int .i64 (f.l.length : Nat))) (some f.b) := ⟨k1.os, k1.tape, k1.output, k1.size, fun q hq hne => k1.block q hq fun e => hne (by rw [e])⟩
            have hfb := hD6.xs f.b (Or.inr ⟨f, hf, Or.inl rfl⟩)
            have hne1 := (hD6.fs.no_map hf).1
            refine ⟨hrg1.kept hgb (fun e => hne1 (by simpa using e.symm)) (fun e => ?_), r1, (hw5.trans kr fun q hq => Or.inr (by have := HRW.out.2; omega)).trans r2 HXX.out⟩
            have := HX3.out _ hfb
            have e' : rr = f.b := by simpa using e
            omega
          have hpv : ptrV (some f.b) = .pointer (some ⟨f.b, 0, none⟩) := rfl
          rw [hpv] at hen
          rw [ev] at b0
          clear hD6 hD5 hf hfn hrg1 hg1 hs1 hrg hat hat' hR HI ev n1 n2 n3 kr hw5 hpv
          generalize f.b = fb at *
          generalize f.l.length = fl at *
          go_wp2_with fail
          go_roundg cnt1
          case measure => omega
          case rel => exact ⟨_, _, _, rfl, ⟨rfl, HE.out⟩⟩

end Go.Proofs.Ytgkgflkcnigeaaa
