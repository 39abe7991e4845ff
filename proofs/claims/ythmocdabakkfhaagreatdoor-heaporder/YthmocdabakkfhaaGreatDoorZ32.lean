/-
  HpKey, HpSz, HpRsize, HpRlook, HpMake, HpInv2
-/
import Derived.BigQuiet
import Derived.Test.YthmocdabakkfhaaGreatDoorZ31

/-
  Layer 9: whole numbers as keys, and a heap with one table that has some of them.
-/
namespace Go.Proofs.YthmocdabakkfhaaGreatDoor
set_option maxRecDepth 100000
open Go.RowKit Flo

theorem nan_from {k : Int} (hk : k.natAbs ≤ 9007199254740992) : nanB (fromZ k) = false := by
  have := (from_parts (n := k) (by omega) (by omega)).1
  unfold nanB
  exact decide_eq_false (by omega)
theorem canon_from {k : Int} (hk : k.natAbs ≤ 9007199254740992) : canonZ (fromZ k) = fromZ k := by unfold canonZ; rw [nan_from hk]; rfl
theorem kok_from {k : Int} (hk : k.natAbs ≤ 9007199254740992) : kok 3 (fromZ k) = true := by rw [kok_3, nan_from hk]; rfl
/-- The bits of a whole number as a key. -/
def kn (k : Int) : Int := yN 3 (fromZ k)
theorem kn_is {k : Int} (hk : k.natAbs ≤ 9007199254740992) : kn k = if mag (fromZ k) = 0 then 0 else fromZ k := by
  unfold kn yN
  rw [if_pos (kok_from hk), kN_3 (nan_from hk)]
theorem kn_0 : kn 0 = 0 := by kernel_rfl
theorem tz_null {a : Int} (h : MZ a = 0) : tz a = 0 := by
  unfold tz
  rw [h, Nat.zero_div]
  unfold sz
  split <;> rfl
theorem zero_whole : toB 0 = true ∧ toI 0 = 0 := ⟨by kernel_rfl, by kernel_rfl⟩
theorem num_iff {e : En} (he : keyOk e) (hu : U64 e.N) {k : Int} (hk : k.natAbs ≤ 9007199254740992) : numE e k ↔ (e.K = 3 ∧ e.N = kn k ∧ e.S = ⟨#[]⟩ ∧ e.O = 0) := by
  constructor
  · rintro ⟨k3, hB, hI⟩
    obtain ⟨h1, _, h3, h4, h5⟩ := he
    rw [k3] at h1 h3 h4 h5
    have hn : nanB e.N = false := by rw [kok_3] at h1; simpa using h1
    rw [kN_3 hn] at h3
    obtain ⟨t1, t2, _, _⟩ := toB_true hB
    refine ⟨k3, ?_, h4.symm, h5.symm⟩
    by_cases z : MZ e.N = 0
    · have hm : mag e.N = 0 := (MZ_0 hu).1 z
      rw [if_pos hm] at h3
      have k0 : k = 0 := by rw [← hI, t2]; exact tz_null z
      rw [← h3, k0, kn_0]
    · have hb := back_word hu t1 z
      rw [← t2, hI] at hb
      rw [kn_is hk, hb]
      exact h3.symm
  · rintro ⟨k3, hN, hS, hO⟩
    rw [kn_is hk] at hN
    obtain ⟨b1, b2⟩ := from_back hk
    by_cases z : mag (fromZ k) = 0
    · rw [if_pos z] at hN
      have hmz : MZ (fromZ k) = 0 := (MZ_0 (fromZ_u64 k)).2 z
      have k0 : k = 0 := by rw [← b2, (toB_true b1).2.1]; exact tz_null hmz
      exact ⟨k3, by rw [hN]; exact zero_whole.1, by rw [hN, k0]; exact zero_whole.2⟩
    · rw [if_neg z] at hN
      exact ⟨k3, by rw [hN]; exact b1, by rw [hN]; exact b2⟩

/-- A heap with one table: its whole numbers that are keys are those of has (a bound of 2 to the 53rd on them). -/
def NT (w : World) (hb B u : Nat) (has : List Int) (Z : Nat → Prop) : Prop :=
  ∃ used R x tb, used ≤ u ∧ Hv w hb 2000 used R [x] Z ∧ x.tb = some tb ∧ (∀ z : Int, z.natAbs ≤ 9007199254740992 → ((∃ e ∈ x.es, numE e z) ↔ z ∈ has)) ∧ ∀ k, Z k → B ≤ k
theorem NT.below {w w' : World} {hb B u : Nat} {has : List Int} {Z : Nat → Prop} (h : NT w hb B u has Z) (k : Below w.heap.size w w') : NT w' hb B u has Z := by
  obtain ⟨used, R, x, tb, h1, h2, h3, h4, h5⟩ := h
  exact ⟨used, R, x, tb, h1, h2.below k, h3, h4, h5⟩
theorem NT.wx {w w' : World} {hb B u : Nat} {has : List Int} {Z Y : Nat → Prop} (h : NT w hb B u has Z) (k : Wx Y w w') (hY : ∀ i, Z i → ¬ Y i) (h1 : ¬ Y 1) : NT w' hb B u has Z := by
  obtain ⟨used, R, x, tb, q1, q2, q3, q4, q5⟩ := h
  exact ⟨used, R, x, tb, q1, q2.wx k hY h1, q3, q4, q5⟩
/-- Whether a number is there, by the search. -/
theorem nt_of {x : Ob} {w : World} {tb : Nat} (hT : Tv w tb x.X x.es x.M) (hk : ∀ e ∈ x.es, keyOk e) {k : Int} (hb : k.natAbs ≤ 9007199254740992) :
    (ofKey 3 (kn k) ⟨#[]⟩ 0 x.es = none → ¬ ∃ e ∈ x.es, numE e k) ∧ ∀ f, ofKey 3 (kn k) ⟨#[]⟩ 0 x.es = some f → f ∈ x.es ∧ numE f k := by
  refine ⟨fun h => ?_, fun f h => ?_⟩
  · rintro ⟨e, he, hn⟩
    have := List.find?_eq_none.1 h e he
    exact this (decide_eq_true ((num_iff (hk e he) (hT.u64 e he) hb).1 hn))
  · have hm := List.mem_of_find?_eq_some h
    have hd0 := List.find?_some h
    have hd := of_decide_eq_true hd0
    exact ⟨hm, (num_iff (hk f hm) (hT.u64 f hm) hb).2 hd⟩

end Go.Proofs.YthmocdabakkfhaaGreatDoor

/-
  Layer 9: how great a table is, by lists; the landed Size.
-/
namespace Go.Proofs.YthmocdabakkfhaaGreatDoor
set_option maxRecDepth 100000
open Go.RowKit Flo

/-- A whole number as a key. -/
def numV (k : Int) : V4 := ⟨3, fromZ k, ⟨#[]⟩, 0⟩
theorem kn_pos {k : Int} (h0 : 1 ≤ k) (hk : k ≤ 9007199254740992) : kn k = fromZ k := by
  have hk2 : k.natAbs ≤ 9007199254740992 := by omega
  rw [kn_is hk2]
  by_cases z : mag (fromZ k) = 0
  · exfalso
    obtain ⟨b1, b2⟩ := from_back hk2
    have hmz : MZ (fromZ k) = 0 := (MZ_0 (fromZ_u64 k)).2 z
    have k0 : k = 0 := by rw [← b2, (toB_true b1).2.1]; exact tz_null hmz
    omega
  · rw [if_neg z]
/-- So many of the keys 1, 2, 3, .. are there. -/
def szOk (ks : List V4) (s : Nat) : Prop := (∀ p : Nat, p < s → placeM ks (numV ((p : Int) + 1)) ≠ none) ∧ placeM ks (numV ((s : Int) + 1)) = none
def sizOk (L : List Om) (o : Int) (s : Nat) : Prop := match tabM L o with
  | none => s = 0
  | some x => szOk x.ks s
theorem sizOk_uniq {L : List Om} {o : Int} {s t : Nat} (h : sizOk L o s) (k : sizOk L o t) : s = t := by
  unfold sizOk at h k
  cases ht : tabM L o with
  | none => rw [ht] at h k; exact h.trans k.symm
  | some x =>
    rw [ht] at h k
    rcases Nat.lt_trichotomy s t with c | c | c
    · exact absurd h.2 (k.1 s c)
    · exact c
    · exact absurd k.2 (h.1 t c)
theorem lsize_any {w : World} {hb lim : Nat} {L : List Om} {Z : Nat → Prop} (h : LH w hb lim L Z) (o : Int) :
    Calls Tryz.prog 19 #[.pointer (some ⟨hb, 0, none⟩), .int .i64 o] w fun e w' => ∃ s : Nat, e = .returned (.int .i64 s) ∧ sizOk L o s ∧ s ≤ 1048576 ∧ w' = w := by
  obtain ⟨used, R, os, hv, rfl⟩ := h
  refine (size_hv hv o).mono ?_
  rintro e w' ⟨hw, s, rfl, hs⟩
  suffices hh : sizOk (os.map Ob.om) o s ∧ s ≤ 1048576 from ⟨s, rfl, hh.1, hh.2, hw⟩
  unfold sizOk
  cases ht : tabOf os o with
  | none => rw [(tabM_none hv).2 ht]; rw [ht] at hs; exact ⟨hs, by have h0 : s = 0 := hs; omega⟩
  | some x =>
    rw [tabM_of hv ht]
    rw [ht] at hs
    obtain ⟨tb, htb, hc⟩ := hs
    obtain ⟨i, tb2, ho, hi, htb2⟩ := tabOf_some ht
    rw [htb] at htb2
    cases htb2
    obtain ⟨_, hT, hK⟩ := (hv.ob i x hi).tab tb htb
    obtain ⟨s2, h9, hin, hout⟩ := hT.size2
    rw [hc] at h9
    have es : s = s2 := by
      have := Option.some.inj h9
      simp only [Value.int.injEq, true_and] at this
      omega
    subst es
    have hle : s ≤ x.es.length := pigeon (fun e => toI e.N - 1) s x.es (fun p hp => by
      obtain ⟨e, he, hn⟩ := hin p hp
      exact ⟨e, he, by have := hn.2.2; show toI e.N - 1 = _; omega⟩)
    have hf := hT.few
    have key : ∀ k : Int, 1 ≤ k → k ≤ 1048577 → (placeM x.om.ks (numV k) = none ↔ ¬ ∃ e ∈ x.es, numE e k) := by
      intro k k1 k2
      have hk : k.natAbs ≤ 9007199254740992 := by omega
      obtain ⟨n1, n2⟩ := nt_of hT hK hk
      have e1 : placeM x.om.ks (numV k) = none ↔ ofKey 3 (kn k) ⟨#[]⟩ 0 x.es = none := by
        rw [kn_pos k1 (by omega)]
        exact place_none (k := numV k)
      rw [e1]
      refine ⟨n1, fun hno => ?_⟩
      cases hf : ofKey 3 (kn k) ⟨#[]⟩ 0 x.es with
      | none => rfl
      | some f => exact absurd ⟨f, n2 f hf⟩ hno
    refine ⟨⟨fun p hp hno => ?_, ?_⟩, by omega⟩
    · exact (key _ (by omega) (by omega)).1 hno (hin p hp)
    · exact (key _ (by omega) (by omega)).2 (fun ⟨e, he, hn⟩ => hout e he hn)
theorem siz_ex {w : World} {hb lim : Nat} {L : List Om} {Z : Nat → Prop} (h : LH w hb lim L Z) (o : Int) : ∃ s, sizOk L o s ∧ s ≤ 1048576 := by
  obtain ⟨used, R, os, hv, rfl⟩ := h
  cases ht : tabOf os o with
  | none => exact ⟨0, by unfold sizOk; rw [(tabM_none hv).2 ht], by omega⟩
  | some x =>
    obtain ⟨i, tb, ho, hi, htb⟩ := tabOf_some ht
    obtain ⟨_, hT, hK⟩ := (hv.ob i x hi).tab tb htb
    obtain ⟨s, h9, hin, hout⟩ := hT.size2
    have hle : s ≤ x.es.length := pigeon (fun e => toI e.N - 1) s x.es (fun p hp => by
      obtain ⟨e, he, hn⟩ := hin p hp
      exact ⟨e, he, by have := hn.2.2; show toI e.N - 1 = _; omega⟩)
    have hf := hT.few
    have key : ∀ k : Int, 1 ≤ k → k ≤ 1048577 → (placeM x.om.ks (numV k) = none ↔ ¬ ∃ e ∈ x.es, numE e k) := by
      intro k k1 k2
      have hk : k.natAbs ≤ 9007199254740992 := by omega
      obtain ⟨n1, n2⟩ := nt_of hT hK hk
      have e1 : placeM x.om.ks (numV k) = none ↔ ofKey 3 (kn k) ⟨#[]⟩ 0 x.es = none := by
        rw [kn_pos k1 (by omega)]
        exact place_none (k := numV k)
      rw [e1]
      refine ⟨n1, fun hno => ?_⟩
      cases hf : ofKey 3 (kn k) ⟨#[]⟩ 0 x.es with
      | none => rfl
      | some f => exact absurd ⟨f, n2 f hf⟩ hno
    refine ⟨s, ?_, by omega⟩
    unfold sizOk
    rw [tabM_of hv ht]
    exact ⟨fun p hp hno => (key _ (by omega) (by omega)).1 hno (hin p hp), (key _ (by omega) (by omega)).2 (fun ⟨e, he, hn⟩ => hout e he hn)⟩

end Go.Proofs.YthmocdabakkfhaaGreatDoor

/-
  Layer 9: the reference's Size.
-/
namespace Go.Proofs.YthmocdabakkfhaaGreatDoor
set_option maxRecDepth 100000
open Go.RowKit Flo

theorem keep11 {W w' : World} {db g0 j : Nat} {u v0 v1 v2 v3 v4 v5 v6 v7 v8 v9 : Value} (h : W.cell? ⟨db, 0, none⟩ = some u ∧ W.cell? ⟨g0, j * 10, none⟩ = some v0 ∧ W.cell? ⟨g0, j * 10 + 1, none⟩ = some v1 ∧ W.cell? ⟨g0, j * 10 + 2, none⟩ = some v2 ∧ W.cell? ⟨g0, j * 10 + 3, none⟩ = some v3 ∧ W.cell? ⟨g0, j * 10 + 4, none⟩ = some v4 ∧ W.cell? ⟨g0, j * 10 + 5, none⟩ = some v5 ∧ W.cell? ⟨g0, j * 10 + 6, none⟩ = some v6 ∧ W.cell? ⟨g0, j * 10 + 7, none⟩ = some v7 ∧ W.cell? ⟨g0, j * 10 + 8, none⟩ = some v8 ∧ W.cell? ⟨g0, j * 10 + 9, none⟩ = some v9) (hb : Below W.heap.size W w') :
    w'.cell? ⟨db, 0, none⟩ = some u ∧ w'.cell? ⟨g0, j * 10, none⟩ = some v0 ∧ w'.cell? ⟨g0, j * 10 + 1, none⟩ = some v1 ∧ w'.cell? ⟨g0, j * 10 + 2, none⟩ = some v2 ∧ w'.cell? ⟨g0, j * 10 + 3, none⟩ = some v3 ∧ w'.cell? ⟨g0, j * 10 + 4, none⟩ = some v4 ∧ w'.cell? ⟨g0, j * 10 + 5, none⟩ = some v5 ∧ w'.cell? ⟨g0, j * 10 + 6, none⟩ = some v6 ∧ w'.cell? ⟨g0, j * 10 + 7, none⟩ = some v7 ∧ w'.cell? ⟨g0, j * 10 + 8, none⟩ = some v8 ∧ w'.cell? ⟨g0, j * 10 + 9, none⟩ = some v9 := by
  obtain ⟨a, b, c, d, e, f, g, i, k, l, m⟩ := h
  have h1 : db < W.heap.size := World.block_lt_of_cell? W _ a
  have h2 : g0 < W.heap.size := World.block_lt_of_cell? W _ b
  exact ⟨(hb.cell h1).trans a, (hb.cell h2).trans b, (hb.cell h2).trans c, (hb.cell h2).trans d, (hb.cell h2).trans e, (hb.cell h2).trans f, (hb.cell h2).trans g, (hb.cell h2).trans i, (hb.cell h2).trans k, (hb.cell h2).trans l, (hb.cell h2).trans m⟩

set_option maxHeartbeats 2000000 in
theorem rsize_any {w : World} {db lim : Nat} {R : Value} {rs : List Rr} {Q : Nat → Prop} (h : Rv w db lim R rs Q) (o : Int) (s : Nat) (hs : sizOk (rs.map Rr.om) o s) (hsl : s ≤ 1048576) :
    Calls Tryz.prog 41 #[.pointer (some ⟨db, 0, none⟩), .int .i64 o] w fun e w' => e = .returned (.int .i64 s) ∧ Below w.heap.size w w' := by
  unfold sizOk at hs
  rw [tabM_rs] at hs
  have HV := hide_p h
  cases ht : rTab rs o with
  | none =>
    rw [ht] at hs
    have hs0 : s = 0 := hs
    subst hs0
    have HH : Hid (∀ w', Below w.heap.size w w' → Calls Tryz.prog 7 #[.pointer (some ⟨db, 0, none⟩), .int .i64 o] w' fun e w2 => e = .returned (.bool false) ∧ w2 = w') := fun w' hb => by
      have := rhas_any (HV.out.below hb) o
      rw [ht] at this
      exact this
    clear h hs ht HV
    have HB := hide_p (Below.refl w.heap.size w)
    go_enter Tryz.func41, Tryz.ntmps41
    go_wp2_with fail
    go_loopg [5] 0 (fun kk i wr => i = .int .i64 0 ∧ wr = w)
    case atStart => exact ⟨rfl, rfl⟩
    case round =>
      obtain ⟨rfl, rfl⟩ := hrel
      go_wp2_with fail
      refine wp_region_below (by kernel_rfl) (by kernel_rfl) ?_
      repeat (go_big_quiet_step (rfl))
      quiet_step ((go_at_call 7; exact below_of ((HH.out _ (BelowOf.h _)).mono (fun e w2 ⟨h1, h2⟩ => ⟨h1, by rw [h2]; exact Below.refl _ _⟩))))
      repeat (go_big_quiet_step (rfl))
      refine wpQuiet_nil ?_
      intro wq hw'
      obtain ⟨⟨w9, hwq⟩, hw''⟩ := hw'
      subst hw''
      go_wp2
      go_ret
      exact ⟨rfl, hwq⟩
  | some r =>
    rw [ht] at hs
    have HS : Hid (szOk r.om.ks s) := hs
    obtain ⟨hra, hrk⟩ := rTab_some ht
    obtain ⟨j, ho, hoj, hjl, hrj⟩ := rAt_some hra
    have HRJ := hide_p hrj
    obtain ⟨ka, kc, hkv, _⟩ := (h.ob j r hrj).k.form
    obtain ⟨va, vc, hvv, _⟩ := (h.ob j r hrj).v.form
    obtain ⟨sa, sc, hsv, _⟩ := (h.ob j r hrj).s.form
    have hkl : r.om.ks.length ≤ 1048576 := by have := usedR_ge rs j r hrj; have := h.hu; have := h.hl; have hw : r.om.wt = 1 + r.om.ks.length + r.om.sl.length := rfl; omega
    have hjl2 : (j : Int) < (rs.length : Int) := by omega
    have hlen : rs.length ≤ 1048576 := by have := usedR_len rs; have := h.hu; have := h.hl; omega
    have HH : Hid (∀ w', Below w.heap.size w w' → Calls Tryz.prog 7 #[.pointer (some ⟨db, 0, none⟩), .int .i64 ((j : Int) + 1)] w' fun e w2 => e = .returned (.bool true) ∧ w2 = w') := fun w' hb => by
      have := rhas_any (HV.out.below hb) ((j : Int) + 1)
      rw [← ho, ht] at this
      rw [← ho]
      exact this
    have HNum : Hid (∀ (p : Nat), p ≤ 1048576 → ∀ w', Calls Tryz.prog 18 #[.int .i64 ((p : Int) + 1)] w' fun e w2 => e = .returned (.agg #[.int .i64 3, .int .u64 (fromZ ((p : Int) + 1)), .string ⟨#[]⟩, .int .i64 0]) ∧ Below w'.heap.size w' w2) := fun p hp w' => by
      have := number_any ((p : Int) + 1) w' (by omega) (by omega)
      rw [canon_from (by omega)] at this
      exact this
    obtain ⟨rom, kv, vv, sv⟩ := r
    simp only at hkv hvv hsv hkl HS
    subst hkv
    subst hvv
    subst hsv
    subst ho
    have HP : Hid (∀ (p : Nat) w', Below w.heap.size w w' → Calls Tryz.prog 64 #[(⟨rom, .slice ka rom.ks.length kc, .slice va rom.vs.length vc, .slice sa rom.sl.length sc⟩ : Rr).val, .agg #[.int .i64 3, .int .u64 (fromZ ((p : Int) + 1)), .string ⟨#[]⟩, .int .i64 0]] w' fun e w2 => e = .returned (.int .i64 (plN (placeM rom.ks (numV ((p : Int) + 1))))) ∧ Below w'.heap.size w' w2) := fun p w' hb => place_any (⟨rom, .slice ka rom.ks.length kc, .slice va rom.vs.length vc, .slice sa rom.sl.length sc⟩ : Rr) (numV ((p : Int) + 1)) w' ((HV.out.below hb).ob j _ HRJ.out).k ⟨_, _, _, rfl⟩ ⟨_, _, _, rfl⟩ hkl
    have HC : Hid (∃ g0 cap0, ∀ wr, Below w.heap.size w wr → wr.cell? ⟨db, 0, none⟩ = some (.slice (some ⟨g0, 0, none⟩) rs.length cap0) ∧ wr.cell? ⟨g0, j * 10, none⟩ = some (.int .i64 rom.k) ∧ wr.cell? ⟨g0, j * 10 + 1, none⟩ = some (.slice ka rom.ks.length kc) ∧ wr.cell? ⟨g0, j * 10 + 2, none⟩ = some (.slice va rom.vs.length vc) ∧ wr.cell? ⟨g0, j * 10 + 3, none⟩ = some (.int .i64 rom.M.K) ∧ wr.cell? ⟨g0, j * 10 + 4, none⟩ = some (.int .u64 rom.M.N) ∧ wr.cell? ⟨g0, j * 10 + 5, none⟩ = some (.string rom.M.S) ∧ wr.cell? ⟨g0, j * 10 + 6, none⟩ = some (.int .i64 rom.M.O) ∧ wr.cell? ⟨g0, j * 10 + 7, none⟩ = some (.int .i64 rom.a) ∧ wr.cell? ⟨g0, j * 10 + 8, none⟩ = some (.int .i64 rom.b) ∧ wr.cell? ⟨g0, j * 10 + 9, none⟩ = some (.slice sa rom.sl.length sc)) := by
      obtain ⟨a0, cap0, hR, hf0⟩ := h.form
      obtain ⟨g0, rfl, hg0, hc0⟩ := hf0 (by omega)
      have x := fun q hq => hc0 j _ hrj q hq
      refine ⟨g0, cap0, fun wr hb => keep11 ⟨by rw [← hR]; exact h.c0, x 0 (by omega), x 1 (by omega), x 2 (by omega), x 3 (by omega), x 4 (by omega), x 5 (by omega), x 6 (by omega), x 7 (by omega), x 8 (by omega), x 9 (by omega)⟩ hb⟩
    obtain ⟨g0, cap0, HC2⟩ := HC.out
    replace HC := hide_p HC2
    have e1 : (j : Int) + 1 - 1 = (j : Int) := by omega
    have hj0 : (0 : Int) ≤ (j : Int) := by omega
    have hjb : j ≤ 1048576 := by omega
    clear hra hrk hoj h hrj hs HC2 ht HV HRJ
    go_enter Tryz.func41, Tryz.ntmps41
    go_wp2_with fail
    go_loopg [5] (s + 1) (fun kk i wr => ∃ n : Nat, n ≤ s ∧ i = .int .i64 (n : Int) ∧ Hid (Below w.heap.size w wr ∧ kk = s + 1 - n))
    case atStart => exact ⟨0, Nat.zero_le _, rfl, Below.refl _ _, rfl⟩
    case round =>
      obtain ⟨n, hn, rfl, HK⟩ := hrel
      have HB := hide_p HK.out.1
      have HBB : Hid (∀ p : BelowOf wr, Below w.heap.size w p.u) := fun p => HK.out.1.trans (p.h.mono HK.out.1.size)
      have hc0 : ∀ p : BelowOf wr, p.u.cell? ⟨db, 0, none⟩ = some (.slice (some ⟨g0, 0, none⟩) rs.length cap0) := fun p => (HC.out _ (HBB.out p)).1
      have x0 : ∀ p : BelowOf wr, p.u.cell? ⟨g0, j * 10, none⟩ = some (.int .i64 rom.k) := fun p => (HC.out _ (HBB.out p)).2.1
      have x1 : ∀ p : BelowOf wr, p.u.cell? ⟨g0, j * 10 + 1, none⟩ = some (.slice ka rom.ks.length kc) := fun p => (HC.out _ (HBB.out p)).2.2.1
      have x2 : ∀ p : BelowOf wr, p.u.cell? ⟨g0, j * 10 + 2, none⟩ = some (.slice va rom.vs.length vc) := fun p => (HC.out _ (HBB.out p)).2.2.2.1
      have x3 : ∀ p : BelowOf wr, p.u.cell? ⟨g0, j * 10 + 3, none⟩ = some (.int .i64 rom.M.K) := fun p => (HC.out _ (HBB.out p)).2.2.2.2.1
      have x4 : ∀ p : BelowOf wr, p.u.cell? ⟨g0, j * 10 + 4, none⟩ = some (.int .u64 rom.M.N) := fun p => (HC.out _ (HBB.out p)).2.2.2.2.2.1
      have x5 : ∀ p : BelowOf wr, p.u.cell? ⟨g0, j * 10 + 5, none⟩ = some (.string rom.M.S) := fun p => (HC.out _ (HBB.out p)).2.2.2.2.2.2.1
      have x6 : ∀ p : BelowOf wr, p.u.cell? ⟨g0, j * 10 + 6, none⟩ = some (.int .i64 rom.M.O) := fun p => (HC.out _ (HBB.out p)).2.2.2.2.2.2.2.1
      have x7 : ∀ p : BelowOf wr, p.u.cell? ⟨g0, j * 10 + 7, none⟩ = some (.int .i64 rom.a) := fun p => (HC.out _ (HBB.out p)).2.2.2.2.2.2.2.2.1
      have x8 : ∀ p : BelowOf wr, p.u.cell? ⟨g0, j * 10 + 8, none⟩ = some (.int .i64 rom.b) := fun p => (HC.out _ (HBB.out p)).2.2.2.2.2.2.2.2.2.1
      have x9 : ∀ p : BelowOf wr, p.u.cell? ⟨g0, j * 10 + 9, none⟩ = some (.slice sa rom.sl.length sc) := fun p => (HC.out _ (HBB.out p)).2.2.2.2.2.2.2.2.2.2
      by_cases c : n < s
      · obtain ⟨q, hq⟩ : ∃ q, placeM rom.ks (numV ((n : Int) + 1)) = some q := Option.ne_none_iff_exists'.1 (HS.out.1 n c)
        have HP2 := hide_p (HP.out n)
        rw [hq, show plN (some q) = (q : Int) from rfl] at HP2
        have HNu := hide_p (HNum.out n (by omega))
        clear HP HNum hq
        have hq0 : ¬ ((q : Int) < 0) := by omega
        have hq1 : (0 : Int) ≤ (q : Int) := by omega
        generalize fromZ ((n : Int) + 1) = FN at *
        go_wp2_with fail
        refine wp_region_below (by kernel_rfl) (by kernel_rfl) ?_
        repeat (go_big_quiet_step (rfl))
        quiet_step ((go_at_call 7; exact below_of ((HH.out _ (HBB.out _)).mono (fun e w2 ⟨h1, h2⟩ => ⟨h1, by rw [h2]; exact Below.refl _ _⟩))))
        repeat (go_big_quiet_step (rfl))
        quiet_step ((go_at_call 18; exact below_of (HNu.out _)))
        repeat (go_big_quiet_step (rfl))
        quiet_step ((go_at_call 64; exact below_of (HP2.out _ (HBB.out _))))
        repeat (go_big_quiet_step (rfl))
        refine wpQuiet_nil ?_
        intro wq hw'
        obtain ⟨⟨w9, hwq⟩, hw''⟩ := hw'
        subst hw''
        have hb14 := hide_p (HBB.out ⟨_, hwq⟩)
        go_wp2
        go_roundg (s + 1 - (n + 1))
        case measure => have := HK.out.2; omega
        case rel => exact ⟨n + 1, by omega, by go_num, hb14.out, rfl⟩
      · have hns : n = s := by omega
        subst hns
        have hq := HS.out.2
        have HP2 := hide_p (HP.out n)
        rw [hq, show plN none = -1 from rfl] at HP2
        have HNu := hide_p (HNum.out n (by omega))
        clear HP HNum hq
        generalize fromZ ((n : Int) + 1) = FN at *
        go_wp2_with fail
        refine wp_region_below (by kernel_rfl) (by kernel_rfl) ?_
        repeat (go_big_quiet_step (rfl))
        quiet_step ((go_at_call 7; exact below_of ((HH.out _ (HBB.out _)).mono (fun e w2 ⟨h1, h2⟩ => ⟨h1, by rw [h2]; exact Below.refl _ _⟩))))
        repeat (go_big_quiet_step (rfl))
        quiet_step ((go_at_call 18; exact below_of (HNu.out _)))
        repeat (go_big_quiet_step (rfl))
        quiet_step ((go_at_call 64; exact below_of (HP2.out _ (HBB.out _))))
        repeat (go_big_quiet_step (rfl))
        refine wpQuiet_nil ?_
        intro wq hw'
        obtain ⟨⟨w9, hwq⟩, hw''⟩ := hw'
        subst hw''
        have hb14 := hide_p (HBB.out ⟨_, hwq⟩)
        go_wp2
        go_ret
        exact ⟨rfl, hb14.out⟩

end Go.Proofs.YthmocdabakkfhaaGreatDoor

/-
  Layer 9: the reference's Look.
-/
namespace Go.Proofs.YthmocdabakkfhaaGreatDoor
set_option maxRecDepth 100000
open Go.RowKit Flo

set_option maxHeartbeats 2000000 in
theorem rlook_any {w : World} {db lim : Nat} {R : Value} {rs : List Rr} {Q : Nat → Prop} (h : Rv w db lim R rs Q) (o : Int) (k : V4) (hN : U64 k.N) :
    Calls Tryz.prog 40 #[.pointer (some ⟨db, 0, none⟩), .int .i64 o, .agg #[.int .i64 k.K, .int .u64 k.N, .string k.S, .int .i64 k.O]] w fun e w' => e = .returned (.agg #[.int .i64 (lookM (rs.map Rr.om) k 17 o).K, .int .u64 (lookM (rs.map Rr.om) k 17 o).N, .string (lookM (rs.map Rr.om) k 17 o).S, .int .i64 (lookM (rs.map Rr.om) k 17 o).O]) ∧ Below w.heap.size w w' := by
  have HB0 : Hid (Below w.heap.size w ((w.alloc (.cells #[.int .i64 k.K, .int .u64 k.N, .string k.S, .int .i64 k.O] 37)).alloc (.cells #[.int .i64 0, .int .u64 0, .string ⟨#[]⟩, .int .i64 0] 37))) := ((Below.refl _ _).alloc (Nat.le_refl _) _).alloc (by simp) _
  have HV := hide_p h
  obtain ⟨RES, hres⟩ : ∃ RES, RES = lookM (rs.map Rr.om) k 17 o := ⟨_, rfl⟩
  have HR : Hid (RES = lookM (rs.map Rr.om) k 17 o) := hres
  rw [← hres]
  clear h hres
  go_enter Tryz.func40, Tryz.ntmps40
  go_wp2_with fail
  go_loopg [1, 7] 17 (fun kk t1 t7 wr => ∃ (j : Nat) (p : Int), t1 = .int .i64 p ∧ t7 = .int .i64 (j : Int) ∧ j ≤ 17 ∧ (wr.cell? ⟨w.heap.size, 0, none⟩ = some (.int .i64 k.K) ∧ wr.cell? ⟨w.heap.size, 1, none⟩ = some (.int .u64 k.N) ∧ wr.cell? ⟨w.heap.size, 2, none⟩ = some (.string k.S) ∧ wr.cell? ⟨w.heap.size, 3, none⟩ = some (.int .i64 k.O)) ∧
    (wr.cell? ⟨w.heap.size + 1, 0, none⟩ = some (.int .i64 0) ∧ wr.cell? ⟨w.heap.size + 1, 1, none⟩ = some (.int .u64 0) ∧ wr.cell? ⟨w.heap.size + 1, 2, none⟩ = some (.string ⟨#[]⟩) ∧ wr.cell? ⟨w.heap.size + 1, 3, none⟩ = some (.int .i64 0)) ∧ (∀ i, wr.frozen? ⟨w.heap.size + 1, i, none⟩ = false) ∧ w.heap.size + 2 ≤ wr.heap.size ∧
    Hid (kk = 17 - j ∧ RES = lookM (rs.map Rr.om) k (17 - j) p ∧ Below w.heap.size w wr))
  case atStart =>
    exact ⟨0, o, rfl, rfl, by omega, ⟨by go_simp, by go_simp, by go_simp, by go_simp⟩, ⟨by go_simp, by go_simp, by go_simp, by go_simp⟩, fun i => by go_simp, by simp, ⟨rfl, HR.out, HB0.out⟩⟩
  case round =>
    obtain ⟨j, p, rfl, rfl, hj, ⟨k0, k1, k2, k3⟩, ⟨t0, t1, t2, t3⟩, tf, hsz, HI⟩ := hrel
    clear HB0 HR
    have HH := hide_p (rhas_any (HV.out.below HI.out.2.2) p)
    have HGT := hide_p (rget_any (HV.out.below HI.out.2.2) p k hN)
    by_cases c1 : j ≤ 16
    · have c1i : (j : Int) ≤ 16 := by omega
      have hlm : Hid (lookM (rs.map Rr.om) k (17 - j) p = lookM (rs.map Rr.om) k ((16 - j) + 1) p) := by show _ = _; rw [show 17 - j = (16 - j) + 1 by omega]
      cases ht : rTab rs p with
      | none =>
        have HR : Hid (RES = V0) := by
          show _ = _
          rw [HI.out.2.1, hlm.out, lookM, tabM_rs, ht]; rfl
        have HBe : Hid (Below w.heap.size w wr) := HI.out.2.2
        rw [show (rTab rs p).isSome = false by rw [ht]; rfl] at HH
        clear HI hlm ht HGT k0 k1 k2 k3 HV
        go_wp2_with fail
        refine HH.out.mono ?_
        rintro e w6 ⟨rfl, hw6⟩
        have hw6s := hw6.symm
        subst hw6s
        clear HH
        go_wp2
        rw [HR.out]
        exact bodyPost_ret (v := .agg #[.int .i64 0, .int .u64 0, .string ⟨#[]⟩, .int .i64 0]) (by simp [results, Tryz.results40, go_sem, t0, t1, t2, t3]) rfl ⟨rfl, set41 HBe.out (by omega) _ _ _ _⟩
      | some r =>
        obtain ⟨hra, hrk⟩ := rTab_some ht
        obtain ⟨i, ho, hoi, hil, hri⟩ := rAt_some hra
        have HR : Hid (RES = if (getVal (rs.map Rr.om) p k).K ≠ 0 then getVal (rs.map Rr.om) p k else if r.om.M.K = 0 then V0 else lookM (rs.map Rr.om) k (16 - j) r.om.M.O) := by
          show _ = _
          rw [HI.out.2.1, hlm.out, lookM, tabM_rs, ht]; rfl
        have HBe : Hid (Below w.heap.size w wr) := HI.out.2.2
        have hkk : Hid (gk = 17 - j) := HI.out.1
        rw [show (rTab rs p).isSome = true by rw [ht]; rfl] at HH
        have HRI := hide_p hri
        generalize getVal (rs.map Rr.om) p k = v at *
        have hil2 : (i : Int) < (rs.length : Int) := by omega
        clear HI hlm ht hra hrk hri hoi hj c1
        subst ho
        have e1 : (i : Int) + 1 - 1 = (i : Int) := by omega
        go_wp2_with fail
        refine HH.out.mono ?_
        rintro e w6 ⟨rfl, hw6⟩
        have hw6s := hw6.symm
        subst hw6s
        clear HH
        go_wp2_with fail
        refine HGT.out.mono ?_
        rintro e w7 ⟨rfl, hb7⟩
        obtain ⟨p0, p1, p2, p3⟩ := keep4 ⟨k0, k1, k2, k3⟩ hb7
        obtain ⟨s0, s1, s2, s3⟩ := keep4 ⟨t0, t1, t2, t3⟩ hb7
        have sf : ∀ q, w7.frozen? ⟨w.heap.size + 1, q, none⟩ = false := fun q => (hb7.frozen (by show w.heap.size + 1 < wr.heap.size; omega)).trans (tf q)
        have HB7 : Hid (Below w.heap.size w w7) := HBe.out.trans (hb7.mono HBe.out.size)
        have hsz7 : w.heap.size + 2 ≤ w7.heap.size := by have := hb7.size; omega
        have hl1 : w.heap.size + 1 < w7.heap.size := by omega
        have hl0 : w.heap.size < w7.heap.size := by omega
        clear hb7 HGT HBe k0 k1 k2 k3 t0 t1 t2 t3 tf hsz
        by_cases c2 : v.K = 0
        · have hv7 := HV.out.below HB7.out
          obtain ⟨a0, cap0, hR, hf0⟩ := hv7.form
          obtain ⟨g0, rfl, hg0, hc0⟩ := hf0 (by omega)
          have x := fun q hq => hc0 i _ HRI.out q hq
          have c0 : w7.cell? ⟨db, 0, none⟩ = some (.slice (some ⟨g0, 0, none⟩) rs.length cap0) := by rw [← hR]; exact hv7.c0
          have x3 : w7.cell? ⟨g0, i * 10 + 3, none⟩ = some (.int .i64 r.om.M.K) := x 3 (by omega)
          have x6 : w7.cell? ⟨g0, i * 10 + 6, none⟩ = some (.int .i64 r.om.M.O) := x 6 (by omega)
          have hlen : rs.length ≤ 1048576 := by have := usedR_len rs; have := HV.out.hu; have := HV.out.hl; omega
          have hdb0 : db < w7.heap.size := World.block_lt_of_cell? w7 _ c0
          have hdb : ¬ db = w7.heap.size := by omega
          have hgb : ¬ g0 = w7.heap.size := by omega
          have hn : Hid (∀ q, q = r.om.M.O → ¬ r.om.M.K = 0 → RES = lookM (rs.map Rr.om) k (16 - j) q) := by
            intro q hq d; rw [HR.out, if_neg (fun e => e c2), if_neg d, hq]
          have hz : Hid (r.om.M.K = 0 → RES = V0) := by
            intro d; rw [HR.out, if_neg (fun e => e c2), if_pos d]
          clear hc0 hf0 hR x hv7 HV HRI HR
          generalize r.om.M.K = mK at *
          generalize hmO : r.om.M.O = mO at *
          have HN : Hid (¬ mK = 0 → RES = lookM (rs.map Rr.om) k (16 - j) mO) := hn.out mO rfl
          clear hn hmO
          obtain ⟨vK, vN, vS, vO⟩ := v
          simp only at c2
          subst c2
          by_cases c3 : mK = 0
          · have hre := hide_p (hz.out c3)
            clear HN hz
            subst c3
            go_wp2
            rw [hre.out]
            exact bodyPost_ret (v := .agg #[.int .i64 0, .int .u64 0, .string ⟨#[]⟩, .int .i64 0]) (by simp [results, Tryz.results40, go_sem, s0, s1, s2, s3, hl1]) rfl ⟨rfl, (set41 HB7.out (by omega) _ _ _ _).alloc (by simp; omega) _⟩
          · have HN2 := hide_p (HN.out c3)
            clear HN hz
            go_wp2_with fail
            go_roundg (17 - (j + 1))
            case measure => have := hkk.out; omega
            case rel =>
              exact ⟨j + 1, mO, rfl, by go_num, by omega, ⟨by go_simp, by go_simp, by go_simp, by go_simp⟩, ⟨by go_simp, by go_simp, by go_simp, by go_simp⟩, fun q => by go_simp, by simp; omega, ⟨rfl, by rw [HN2.out, show 17 - (j + 1) = 16 - j by omega], HB7.out.alloc (by omega) _⟩⟩
        · have hre : Hid (RES = v) := by show _ = _; rw [HR.out, if_pos c2]
          clear HR HV HRI
          go_wp2
          rw [hre.out]
          exact bodyPost_ret (v := .agg #[.int .i64 v.K, .int .u64 v.N, .string v.S, .int .i64 v.O]) (by simp [results, Tryz.results40, go_sem, s0, s1, s2, s3, hl1]) rfl ⟨rfl, (set41 HB7.out (by omega) _ _ _ _).alloc (by simp; omega) _⟩
    · have c1i : ¬ (j : Int) ≤ 16 := by omega
      have HR : Hid (RES = V0) := by
        show _ = _
        rw [HI.out.2.1, show 17 - j = 0 by omega, lookM]
      have HBe : Hid (Below w.heap.size w wr) := HI.out.2.2
      clear HI HH HGT k0 k1 k2 k3 HV
      go_wp2
      rw [HR.out]
      exact bodyPost_ret (v := .agg #[.int .i64 0, .int .u64 0, .string ⟨#[]⟩, .int .i64 0]) (by simp [results, Tryz.results40, go_sem, t0, t1, t2, t3]) rfl ⟨rfl, set41 HBe.out (by omega) _ _ _ _⟩
end Go.Proofs.YthmocdabakkfhaaGreatDoor

/-
  Layer 9: the landed heap's Make by lists.
-/
namespace Go.Proofs.YthmocdabakkfhaaGreatDoor
set_option maxRecDepth 100000
open Go.RowKit Flo

def makeM (lim : Nat) (L : List Om) (k a b n : Int) : (Int × Int) × List Om :=
  if (k ≠ 6 ∧ k ≠ 7 ∧ k ≠ 9) ∨ n < 0 ∨ 255 < n then ((0, 1), L) else if usedM L + (1 + n.toNat) ≤ lim then ((((L.length + 1 : Nat) : Int), 0), L ++ [⟨k, a, b, V0, [], [], List.replicate n.toNat V0⟩]) else ((0, 2), L)
theorem made_vals (n : Nat) : (madeCells #[.int .i64 0, .int .u64 0, .string ⟨#[]⟩, .int .i64 0] (n * 4)).toList = vC (List.replicate n V0) := by
  apply List.ext_getElem?
  intro i
  rcases Nat.lt_or_ge i (n * 4) with c | c
  · have h1 : (List.replicate n V0)[i / 4]? = some V0 := by rw [List.getElem?_replicate, if_pos (by omega)]
    have h2 := vC_at (List.replicate n V0) (i / 4) V0 h1 (i % 4) (by omega)
    rw [show i / 4 * 4 + i % 4 = i by omega] at h2
    rw [h2]
    unfold madeCells
    simp only [Array.toList_map, List.getElem?_map]
    have h3 : (Array.range (n * 4)).toList[i]? = some i := by simp [c]
    rw [h3]
    have h4 : i % 4 = 0 ∨ i % 4 = 1 ∨ i % 4 = 2 ∨ i % 4 = 3 := by omega
    show some ((#[.int .i64 0, .int .u64 0, .string ⟨#[]⟩, .int .i64 0] : Array Value)[i % 4]!) = _
    rcases h4 with e | e | e | e <;> (rw [e]; rfl)
  · rw [List.getElem?_eq_none (by rw [Array.length_toList, size_madeCells]; exact c), List.getElem?_eq_none (by rw [vC_length, List.length_replicate]; exact c)]

/-- A new object that is no table. -/
def othO (k a b : Int) (sb n : Nat) : Ob := ⟨k, a, b, sb, List.replicate n V0, none, [], V0, fun j => j = sb⟩
theorem othO_v {w : World} {k a b : Int} {sb n : Nat} (hk : k ≠ 5) (h : Vr w (.slice (some ⟨sb, 0, none⟩) n n) (List.replicate n V0)) : Obv w (othO k a b sb n) := by
  refine ⟨fun t e => by (cases e), fun _ => ⟨⟨rfl, hk⟩, fun _ => Iff.rfl, (World.ownsRow.lt h sb rfl).2, fun j => ?_, fun i v hv => ?_⟩⟩
  · unfold Vr at h
    rw [List.length_replicate] at h
    exact owns_free h j
  · have := vr_at h hv
    rw [Nat.mul_comm i 4] at this
    exact this

set_option maxHeartbeats 1000000 in
theorem make_ok {w : World} {hb lim used : Nat} {R : Value} {os : List Ob} {Z : Nat → Prop} (hv : Hv w hb lim used R os Z) (k a b : Int) (n : Nat) (hk : k = 6 ∨ k = 7 ∨ k = 9) (hn : n ≤ 255) (hu : used + (1 + n) ≤ lim) :
    Calls Tryz.prog 31 #[.pointer (some ⟨hb, 0, none⟩), .int .i64 k, .int .i64 a, .int .i64 b, .int .i64 (n : Int)] w fun e w' => e = .returned (.tuple #[.int .i64 ((os.length + 1 : Nat) : Int), .int .i64 0]) ∧ LP w hb lim (os.map Ob.om ++ [⟨k, a, b, V0, [], [], List.replicate n V0⟩]) Z w' := by
  have hl := hide_p (left_any hb lim used w hv.c0 hv.c1 ⟨by omega, by have := hv.hl; omega⟩ ⟨by omega, by have := hv.hl; have := hv.hu; omega⟩)
  have hc : ¬ ((lim : Int) - (used : Int) < 1 + (n : Int)) := by omega
  have hn0 : ¬ ((n : Int) < 0) := by omega
  have hn1 : ¬ ((n : Int) > 255) := by omega
  have HA : Hid (∀ w1 w2, Below w.heap.size w w1 → w2.ownsRow w.heap.size 37 4 (.slice (some ⟨w1.heap.size, 0, none⟩) n n) n (madeCells #[.int .i64 0, .int .u64 0, .string ⟨#[]⟩, .int .i64 0] (n * 4)).toList → w1.grownBy w2 none → Calls Tryz.prog 50 #[.pointer (some ⟨hb, 0, none⟩), .agg #[.int .i64 k, .int .i64 a, .int .i64 b, .slice (some ⟨w1.heap.size, 0, none⟩) n n, .pointer none]] w2 fun e w' => e = .returned (.int .i64 ((os.length + 1 : Nat) : Int)) ∧ LP w hb lim (os.map Ob.om ++ [⟨k, a, b, V0, [], [], List.replicate n V0⟩]) Z w') := fun w1 w2 hb1 hown hg => by
    have hs := hb1.size
    have hg2 : Below w1.heap.size w1 w2 := ⟨hg.os, hg.tape, hg.output, hg.size, fun j hj => hg.block j hj (fun e => by cases e)⟩
    have hb2 : Below w.heap.size w w2 := hb1.trans (hg2.mono hs)
    have hv2 := hv.below hb2
    rw [made_vals] at hown
    have hvr : Vr w2 (.slice (some ⟨w1.heap.size, 0, none⟩) n n) (List.replicate n V0) := vr_of (B := w.heap.size) (by rw [List.length_replicate]; exact hown)
    have hk5 : k ≠ 5 := by omega
    have hlt := (World.ownsRow.lt hown w1.heap.size rfl).2
    have hadd := hadd_any hb lim used R os Z (othO k a b w1.heap.size n) w2 hv2 (othO_v hk5 hvr) (fun j hj => by
      have e : j = w1.heap.size := hj
      have two := hv.two
      exact ⟨by omega, fun c => by have := hv.lt j c; omega, by omega⟩) rfl rfl (by show used + 1 + (List.replicate n V0).length ≤ lim; rw [List.length_replicate]; omega)
    have e1 : (othO k a b w1.heap.size n).slV = .slice (some ⟨w1.heap.size, 0, none⟩) n n := by unfold Ob.slV othO; simp
    rw [e1] at hadd
    refine hadd.mono ?_
    rintro e w' ⟨rfl, R', h1, h2⟩
    refine ⟨rfl, _, ⟨_, R', _, h1, by rw [List.map_append]; rfl⟩, (Wx.of_below Z hb2).trans h2 (fun _ c => Or.inl c), fun j hj => ?_⟩
    rcases hj with (c | c) | c
    · exact Or.inl c
    · exact Or.inr (by have := hb2.size; omega)
    · have e : j = w1.heap.size := c
      exact Or.inr (by omega)
  have HBQ : Hid (∀ q, Below w.heap.size w (w.drewN q)) := fun q => hp_drewN w q
  obtain ⟨i1, hi1, hy0, hy1, hy2⟩ := valInfo
  have hul : used ≤ 1048576 ∧ lim ≤ 1048576 := ⟨Nat.le_trans hv.hu hv.hl, hv.hl⟩
  clear hv hu
  generalize os.length = m at *
  generalize os.map Ob.om = L at *
  rcases hk with rfl | rfl | rfl
  all_goals
    go_enter Tryz.func31, Tryz.ntmps31
    go_wp2_with fail
    refine hl.out.mono ?_
    rintro e w1 ⟨rfl, q, rfl⟩
    clear hl
    go_wp2_with (at_make; refine wpList_make_full _ rfl _ _ 33 rfl w.heap.size 37 i1 _ 4 Tryz.underlying33 hi1 hy0 hy1 .i64 .i64 _ _ n rfl rfl rfl rfl (by rw [hy2]; omega) (by unfold maxLen; omega) (Nat.le_refl _) ?_)
    intro w2 q1 q2
    have HC := hide_p (HA.out (w.drewN q) w2 (HBQ.out q) q1 q2)
    clear q1 q2 HA
    go_wp2_with fail
    refine HC.out.mono ?_
    rintro e w3 ⟨rfl, hlp⟩
    have HL := hide_p hlp
    clear hlp HC
    go_wp2
    go_ret2
    exact ⟨rfl, HL.out⟩

set_option maxHeartbeats 1000000 in
theorem make_bad (w : World) (hb : Nat) (k a b n : Int) (h : (k ≠ 6 ∧ k ≠ 7 ∧ k ≠ 9) ∨ n < 0 ∨ 255 < n) :
    Calls Tryz.prog 31 #[.pointer (some ⟨hb, 0, none⟩), .int .i64 k, .int .i64 a, .int .i64 b, .int .i64 n] w fun e w' => e = .returned (.tuple #[.int .i64 0, .int .i64 1]) ∧ w' = w := by
  have hcase : (k ≠ 6 ∧ k ≠ 7 ∧ k ≠ 9) ∨ ((k = 6 ∨ k = 7 ∨ k = 9) ∧ n < 0) ∨ ((k = 6 ∨ k = 7 ∨ k = 9) ∧ ¬ n < 0 ∧ n > 255) := by omega
  clear h
  rcases hcase with ⟨c1, c2, c3⟩ | ⟨rfl | rfl | rfl, c⟩ | ⟨rfl | rfl | rfl, c, d⟩
  all_goals
    go_enter Tryz.func31, Tryz.ntmps31
    go_wp2
    go_ret2
    exact ⟨rfl, rfl⟩

set_option maxHeartbeats 1000000 in
theorem make_full {w : World} {hb lim used : Nat} {R : Value} {os : List Ob} {Z : Nat → Prop} (hv : Hv w hb lim used R os Z) (k a b : Int) (n : Nat) (hk : k = 6 ∨ k = 7 ∨ k = 9) (hn : n ≤ 255) (hu : ¬ used + (1 + n) ≤ lim) :
    Calls Tryz.prog 31 #[.pointer (some ⟨hb, 0, none⟩), .int .i64 k, .int .i64 a, .int .i64 b, .int .i64 (n : Int)] w fun e w' => e = .returned (.tuple #[.int .i64 0, .int .i64 2]) ∧ Below w.heap.size w w' := by
  have hl := hide_p (left_any hb lim used w hv.c0 hv.c1 ⟨by omega, by have := hv.hl; omega⟩ ⟨by omega, by have := hv.hl; have := hv.hu; omega⟩)
  have hc : ((lim : Int) - (used : Int) < 1 + (n : Int)) := by omega
  have hn0 : ¬ ((n : Int) < 0) := by omega
  have hn1 : ¬ ((n : Int) > 255) := by omega
  have HBQ : Hid (∀ q, Below w.heap.size w (w.drewN q)) := fun q => hp_drewN w q
  have hul : used ≤ 1048576 ∧ lim ≤ 1048576 := ⟨Nat.le_trans hv.hu hv.hl, hv.hl⟩
  clear hv hu
  rcases hk with rfl | rfl | rfl
  all_goals
    go_enter Tryz.func31, Tryz.ntmps31
    go_wp2_with fail
    refine hl.out.mono ?_
    rintro e w1 ⟨rfl, q, rfl⟩
    clear hl
    go_wp2
    go_ret2
    exact ⟨rfl, HBQ.out q⟩

theorem lmake_any {w : World} {hb lim : Nat} {L : List Om} {Z : Nat → Prop} (h : LH w hb lim L Z) (k a b n : Int) :
    Calls Tryz.prog 31 #[.pointer (some ⟨hb, 0, none⟩), .int .i64 k, .int .i64 a, .int .i64 b, .int .i64 n] w fun e w' => e = .returned (.tuple #[.int .i64 (makeM lim L k a b n).1.1, .int .i64 (makeM lim L k a b n).1.2]) ∧ LP w hb lim (makeM lim L k a b n).2 Z w' := by
  obtain ⟨used, R, os, hv, rfl⟩ := h
  have hun : used = usedM (os.map Ob.om) := by rw [used_om]; exact hv.sum
  by_cases c : (k ≠ 6 ∧ k ≠ 7 ∧ k ≠ 9) ∨ n < 0 ∨ 255 < n
  · have hm : makeM lim (os.map Ob.om) k a b n = ((0, 1), os.map Ob.om) := by unfold makeM; rw [if_pos c]
    rw [hm]
    refine (make_bad w hb k a b n c).mono ?_
    rintro e w' ⟨rfl, rfl⟩
    exact ⟨rfl, LH.below ⟨used, R, os, hv, rfl⟩ (Below.refl _ _)⟩
  · obtain ⟨m, rfl⟩ : ∃ m : Nat, n = (m : Int) := ⟨n.toNat, by omega⟩
    by_cases d : used + (1 + m) ≤ lim
    · have hm : makeM lim (os.map Ob.om) k a b (m : Int) = ((((os.length + 1 : Nat) : Int), 0), os.map Ob.om ++ [⟨k, a, b, V0, [], [], List.replicate m V0⟩]) := by unfold makeM; rw [if_neg c, ← hun, Int.toNat_natCast, if_pos d, List.length_map]
      rw [hm]
      exact make_ok hv k a b m (by omega) (by omega) d
    · have hm : makeM lim (os.map Ob.om) k a b (m : Int) = ((0, 2), os.map Ob.om) := by unfold makeM; rw [if_neg c, ← hun, Int.toNat_natCast, if_neg d]
      rw [hm]
      refine (make_full hv k a b m (by omega) (by omega) d).mono ?_
      rintro e w' ⟨rfl, hb1⟩
      exact ⟨rfl, LH.below ⟨used, R, os, hv, rfl⟩ hb1⟩

end Go.Proofs.YthmocdabakkfhaaGreatDoor

/-
  A region that draws its order, the frame a letter.
-/
namespace Go.Proofs.YthmocdabakkfhaaGreatDoor
set_option maxRecDepth 100000

/-! ### the same, the frame a letter -/
theorem eval_put_ne (a : Act) {d t : Nat} (v : Value) (h : d ≠ t) : (a.put (some d) v).eval (.tmp t) = a.eval (.tmp t) := by
  show (a.tmps.setIfInBounds d v).getD t undef = a.tmps.getD t undef
  simp [Array.getElem?_setIfInBounds_ne h]
theorem eval_put_eq (a : Act) {d : Nat} (v : Value) (h : d < a.tmps.size) : (a.put (some d) v).eval (.tmp d) = v := by
  show (a.tmps.setIfInBounds d v).getD d undef = v
  simp [h]
theorem size_put (a : Act) (d : Nat) (v : Value) : (a.put (some d) v).tmps.size = a.tmps.size := by
  show (a.tmps.setIfInBounds d v).size = _
  simp
theorem put_put (a : Act) (d : Nat) (u v : Value) : (a.put (some d) u).put (some d) v = a.put (some d) v := by
  unfold Act.put
  simp only
  congr 1
  apply Array.ext_getElem?
  intro i
  by_cases c : d = i
  · subst c
    rcases Nat.lt_or_ge d a.tmps.size with h | h
    · simp [h]
    · simp [h]
  · rw [Array.getElem?_setIfInBounds_ne c, Array.getElem?_setIfInBounds_ne c, Array.getElem?_setIfInBounds_ne c]
theorem put_swap (a : Act) {d e : Nat} (u v : Value) (h : d ≠ e) : (a.put (some d) u).put (some e) v = (a.put (some e) v).put (some d) u := by
  unfold Act.put
  simp only
  congr 1
  apply Array.ext_getElem?
  intro i
  by_cases c : d = i
  · subst c
    rw [Array.getElem?_setIfInBounds_ne (fun q => h q.symm)]
    rcases Nat.lt_or_ge d a.tmps.size with q | q
    · simp [q]
    · simp [q]
  · rw [Array.getElem?_setIfInBounds_ne c]
    by_cases c2 : e = i
    · subst c2
      rcases Nat.lt_or_ge e a.tmps.size with q | q
      · simp [q]
      · simp [q]
    · rw [Array.getElem?_setIfInBounds_ne c2, Array.getElem?_setIfInBounds_ne c2, Array.getElem?_setIfInBounds_ne c]
theorem puts_out : ∀ (ds : List Nat) (a : Act) (vs : List Value) (t : Nat), t ∉ ds → (puts a ds vs).eval (.tmp t) = a.eval (.tmp t)
  | [], _, _, _, _ => by unfold puts; rfl
  | _ :: _, _, [], _, _ => by unfold puts; rfl
  | d :: ds, a, v :: vs, t, h => by
    show (puts (a.put (some d) v) ds vs).eval (.tmp t) = _
    rw [puts_out ds _ vs t (fun c => h (List.mem_cons_of_mem _ c)), eval_put_ne a v (fun c => h (by rw [c]; exact List.mem_cons_self))]
theorem puts_in : ∀ (ds : List Nat) (a : Act) (vs : List Value) (p d : Nat) (v : Value), ds.Nodup → (∀ x ∈ ds, x < a.tmps.size) → ds[p]? = some d → vs[p]? = some v → (puts a ds vs).eval (.tmp d) = v
  | [], _, _, p, _, _, _, _, h, _ => by simp at h
  | _ :: _, _, [], p, _, _, _, _, _, h => by simp at h
  | e :: ds, a, u :: vs, 0, d, v, hn, hs, hd, hv => by
    simp only [List.getElem?_cons_zero, Option.some.injEq] at hd hv
    subst hd; subst hv
    show (puts (a.put (some e) u) ds vs).eval (.tmp e) = u
    rw [puts_out ds _ vs e (List.nodup_cons.1 hn).1]
    exact eval_put_eq a u (hs e List.mem_cons_self)
  | e :: ds, a, u :: vs, p + 1, d, v, hn, hs, hd, hv => by
    rw [List.getElem?_cons_succ] at hd hv
    show (puts (a.put (some e) u) ds vs).eval (.tmp d) = v
    exact puts_in ds _ vs p d v (List.nodup_cons.1 hn).2 (fun x hx => by rw [size_put]; exact hs x (List.mem_cons_of_mem _ hx)) hd hv
theorem puts_far : ∀ (ds : List Nat) (a : Act) (vs : List Value) (d : Nat) (v : Value), d ∉ ds → (puts a ds vs).put (some d) v = puts (a.put (some d) v) ds vs
  | [], _, _, _, _, _ => by unfold puts; rfl
  | _ :: _, _, [], _, _, _ => by unfold puts; rfl
  | e :: ds, a, u :: vs, d, v, h => by
    show (puts (a.put (some e) u) ds vs).put (some d) v = puts ((a.put (some d) v).put (some e) u) ds vs
    rw [puts_far ds _ vs d v (fun c => h (List.mem_cons_of_mem _ c)), put_swap a u v (fun c => h (by rw [← c]; exact List.mem_cons_self))]
theorem puts_put : ∀ (ds : List Nat) (a : Act) (vs : List Value) (p d : Nat) (v : Value), ds.Nodup → ds[p]? = some d → vs.length = ds.length → (puts a ds vs).put (some d) v = puts a ds (vs.set p v)
  | [], _, _, p, _, _, _, h, _ => by simp at h
  | _ :: _, _, [], p, _, _, _, _, h => by simp at h
  | e :: ds, a, u :: vs, 0, d, v, hn, hd, hl => by
    simp only [List.getElem?_cons_zero, Option.some.injEq] at hd
    subst hd
    show (puts (a.put (some e) u) ds vs).put (some e) v = puts (a.put (some e) v) ds vs
    rw [puts_far ds _ vs e v (List.nodup_cons.1 hn).1, put_put]
  | e :: ds, a, u :: vs, p + 1, d, v, hn, hd, hl => by
    rw [List.getElem?_cons_succ] at hd
    show (puts (a.put (some e) u) ds vs).put (some d) v = puts (a.put (some e) u) ds (vs.set p v)
    exact puts_put ds _ vs p d v (List.nodup_cons.1 hn).2 hd (by simpa using hl)

/-- One operation, the frame a letter: what its slots hold is handed on. -/
def StepAt2 (P : Program) (ops : Array Oper) (Q : Exit → Act → World → Prop) (a : Act) (ds : List Nat) (J : (Nat → Bool) → List Value → World → Prop) (i : Nat) (o : Oper) : Prop :=
  ∀ (A : Act) (L : Nat → Bool) (vs : List Value) (w : World), (∀ (p d : Nat) (v : Value), ds[p]? = some d → vs[p]? = some v → A.eval (.tmp d) = v) → (∀ t : Nat, t ∉ ds → A.eval (.tmp t) = a.eval (.tmp t)) → J L vs w → L i = false → (∀ e ∈ o.after, Region.binds .any e = true → L e.on = true) →
    ∀ K' : Act → World → Prop, (∀ (p d : Nat) (v : Value) (w' : World), ds[p]? = some d → J (Later L i) (vs.set p v) w' → K' (A.put (some d) v) w') → (∀ w', J (Later L i) vs w' → K' A w') → if Region.wanted o (yielded ops A.tmps) = true then Oper.wp P o A w K' Q else K' (A.put o.dst undef) w
def StepAll2 (P : Program) (ops : Array Oper) (Q : Exit → Act → World → Prop) (a : Act) (ds : List Nat) (J : (Nat → Bool) → List Value → World → Prop) : Nat → List Oper → Prop
  | _, [] => True
  | i, o :: l => StepAt2 P ops Q a ds J i o ∧ StepAll2 P ops Q a ds J (i + 1) l
theorem StepAll2.to {P : Program} {ops : Array Oper} {Q : Exit → Act → World → Prop} {a : Act} {ds : List Nat} {J : (Nat → Bool) → List Value → World → Prop} (hn : ds.Nodup) (hs : ∀ x ∈ ds, x < a.tmps.size) : ∀ {l : List Oper} {k : Nat}, StepAll2 P ops Q a ds J k l → StepAll P ops Q a ds (fun L vs w => vs.length = ds.length ∧ J L vs w) k l
  | [], _, _ => trivial
  | _ :: _, _, h => ⟨fun L vs w hJ hL hd K' hK => h.1 (puts a ds vs) L vs w (fun p d v h1 h2 => puts_in ds a vs p d v hn hs h1 h2) (fun t ht => puts_out ds a vs t ht) hJ.2 hL hd K'
      (fun p d v w' h1 h2 => by
        rw [puts_put ds a vs p d v hn h1 hJ.1]
        exact hK _ _ ⟨by rw [List.length_set]; exact hJ.1, h2⟩)
      (fun w' h2 => hK _ _ ⟨hJ.1, h2⟩), h.2.to hn hs⟩
theorem wp_region_inv2 {P : Program} {id : Nat} {l : List Oper} {Q : Exit → Act → World → Prop} {a : Act} {w : World} (hm : P.follows .mixedOrders = true) (ds : List Nat) (J : (Nat → Bool) → List Value → World → Prop)
    (hdag : dagL 0 l = true) (hn : ds.Nodup) (hs : ∀ x ∈ ds, x < a.tmps.size) (h0 : J (fun _ => false) (slotsOf a ds) w.drew) (hstep : StepAll2 P l.toArray Q a ds J 0 l) (hend : ∀ L vs w', (∀ i, i < l.length → L i = true) → J L vs w' → Q .normal (puts a ds vs) w') :
    (Code.region id l.toArray true).wp P Q a w :=
  wp_region_inv hm ds (fun L vs w => vs.length = ds.length ∧ J L vs w) hdag ⟨by simp [slotsOf], h0⟩ (hstep.to hn hs) (fun L vs w' hl hJ => hend L vs w' hl hJ.2)

end Go.Proofs.YthmocdabakkfhaaGreatDoor
