/-
  HpRu, HpSmall, HpOm, HpPlace, HpRefKey, HpLaid
-/
import Derived.BigQuiet
import Derived.Test.YtjlcdpablnnplaaDoorZ24

/-
  Layer 9: the reference's Used, Is, Has, place.
-/
namespace Go.Proofs.YtjlcdpablnnplaaDoor
set_option maxRecDepth 100000
open Go.RowKit Flo

theorem usedR_take : ∀ (rs : List Rr) (k : Nat) (r : Rr), rs[k]? = some r → usedR (rs.take (k + 1)) = usedR (rs.take k) + r.om.wt
  | [], k, r, h => by simp at h
  | p :: l, 0, r, h => by
    simp only [List.getElem?_cons_zero, Option.some.injEq] at h
    subst h
    simp [usedR]
  | p :: l, k + 1, r, h => by
    rw [List.getElem?_cons_succ] at h
    have := usedR_take l k r h
    unfold usedR at *
    rw [List.take_succ_cons, List.take_succ_cons, List.map_cons, List.map_cons, List.sum_cons, List.sum_cons, this]
    omega
theorem usedR_le : ∀ (rs : List Rr) (k : Nat), usedR (rs.take k) ≤ usedR rs
  | [], k => by simp
  | p :: l, 0 => by simp [usedR]
  | p :: l, k + 1 => by
    have := usedR_le l k
    unfold usedR at *
    rw [List.take_succ_cons, List.map_cons, List.map_cons, List.sum_cons, List.sum_cons]
    omega

set_option maxHeartbeats 1000000 in
theorem rused_any {w : World} {db lim : Nat} {R : Value} {rs : List Rr} {Q : Nat → Prop} (h : Rv w db lim R rs Q) :
    Calls Tryd.prog 9 #[.pointer (some ⟨db, 0, none⟩)] w fun e w' => e = .returned (.int .i64 ((usedR rs : Nat) : Int)) ∧ ∃ q, w' = w.drewN q := by
  obtain ⟨a, cap, hR, hf⟩ := h.form
  have hc0 := h.c0
  rw [hR] at hc0
  have hlen := usedR_len rs
  have hul : usedR rs ≤ 1048576 := Nat.le_trans h.hu h.hl
  have HF : Hid (∀ k, k < rs.length → ∃ g r A1 C1 A2 C2, a = some ⟨g, 0, none⟩ ∧ rs[k]? = some r ∧ w.cell? ⟨g, k * 10 + 1, none⟩ = some (.slice A1 r.om.ks.length C1) ∧ w.cell? ⟨g, k * 10 + 9, none⟩ = some (.slice A2 r.om.sl.length C2)) := fun k hk => by
    obtain ⟨g, e, _, hc⟩ := hf (by omega)
    have hr : rs[k]? = some rs[k] := List.getElem?_eq_getElem hk
    have ho := h.ob k _ hr
    obtain ⟨A1, C1, e1, _⟩ := ho.k.form
    obtain ⟨A2, C2, e2, _⟩ := ho.s.form
    refine ⟨g, rs[k], A1, C1, A2, C2, e, hr, ?_, ?_⟩
    · rw [hc k _ hr 1 (by omega), ← e1]; rfl
    · rw [hc k _ hr 9 (by omega), ← e2]; rfl
  have HU : Hid (∀ k r, rs[k]? = some r → usedR (rs.take (k + 1)) = usedR (rs.take k) + (1 + r.om.ks.length + r.om.sl.length) ∧ usedR (rs.take (k + 1)) ≤ usedR rs) := fun k r hr => ⟨usedR_take rs k r hr, usedR_le rs _⟩
  have HE : Hid (usedR (rs.take rs.length) = usedR rs) := by show usedR (rs.take rs.length) = usedR rs; rw [List.take_length]
  have HZ : Hid (usedR (rs.take 0) = 0) := rfl
  clear h hf hR
  obtain ⟨n, hn⟩ : ∃ n, n = rs.length := ⟨_, rfl⟩
  rw [← hn] at hlen hc0 HF HE
  clear hn
  obtain ⟨U, hU⟩ : ∃ U : Nat → Nat, U = fun k => usedR (rs.take k) := ⟨_, rfl⟩
  have hUa : ∀ k, usedR (rs.take k) = U k := fun k => by rw [hU]
  simp only [hUa] at HU HE HZ
  clear hU hUa
  generalize usedR rs = u at *
  go_enter Tryd.func9, Tryd.ntmps9
  go_wp2_with fail
  go_loopg [3, 4] n (fun kk s i wr => ∃ k : Nat, k ≤ n ∧ i = .int .i64 (k : Int) ∧ s = .int .i64 ((U k : Nat) : Int) ∧ Hid ((∃ q, wr = w.drewN q) ∧ kk = n - k))
  case atStart => exact ⟨0, Nat.zero_le _, rfl, by rw [HZ.out]; rfl, ⟨0, rfl⟩, rfl⟩
  case round =>
    obtain ⟨k, hk, rfl, rfl, HK⟩ := hrel
    have hcw : ∀ p, wr.cell? p = w.cell? p := fun p => by
      obtain ⟨⟨q, e⟩, _⟩ := HK.out
      rw [e]; rfl
    have d0 : wr.cell? ⟨db, 0, none⟩ = some (.slice a n cap) := (hcw _).trans hc0
    by_cases c : k < n
    · obtain ⟨g, r, A1, C1, A2, C2, rfl, hr, e1, e2⟩ := HF.out k c
      obtain ⟨u1, u2⟩ := HU.out k r hr
      have f1 : wr.cell? ⟨g, k * 10 + 1, none⟩ = some (.slice A1 r.om.ks.length C1) := (hcw _).trans e1
      have f2 : wr.cell? ⟨g, k * 10 + 9, none⟩ = some (.slice A2 r.om.sl.length C2) := (hcw _).trans e2
      have ci : (k : Int) < (n : Int) := by omega
      have HU1 : Hid (U (k + 1) = U k + (1 + r.om.ks.length + r.om.sl.length)) := u1
      have hb1 : U k + (1 + r.om.ks.length + r.om.sl.length) ≤ 1048576 := by omega
      clear HF HU HE HZ u1 u2 e1 e2 hr hc0 hcw
      generalize r.om.ks.length = n1 at *
      generalize r.om.sl.length = n2 at *
      generalize U k = uk at *
      have hn : n ≤ 1048576 := by omega
      go_wp2_with fail
      go_quiet (fail)
      go_wp2
      go_roundg (n - (k + 1))
      case measure => have := HK.out.2; omega
      case rel => exact ⟨k + 1, by omega, by go_num, by rw [HU1.out]; go_num, by obtain ⟨⟨q, e⟩, _⟩ := HK.out; exact ⟨⟨q + nq, by rw [e]; simp [World.drewN, Nat.add_assoc]⟩, rfl⟩⟩
    · have hkn : k = n := by omega
      subst hkn
      go_wp2
      go_ret
      exact ⟨by rw [HE.out]; rfl, HK.out.1⟩

theorem ris_any {w : World} {db lim : Nat} {R : Value} {rs : List Rr} {Q : Nat → Prop} (h : Rv w db lim R rs Q) (o : Int) :
    Calls Tryd.prog 45 #[.pointer (some ⟨db, 0, none⟩), .int .i64 o] w fun e w' => e = .returned (.bool (decide (1 ≤ o ∧ o ≤ rs.length))) ∧ w' = w := by
  obtain ⟨a, cap, hR, hf⟩ := h.form
  have hc0 := h.c0
  rw [hR] at hc0
  have hlen : rs.length ≤ 1048576 := by have := usedR_len rs; have := h.hu; have := h.hl; omega
  clear h hR hf
  generalize rs.length = n at *
  by_cases c : 1 ≤ o
  · by_cases d : o ≤ n
    · rw [show decide (1 ≤ o ∧ o ≤ (n : Int)) = true from decide_eq_true ⟨c, d⟩]
      have c2 : o ≥ 1 := c
      go_enter Tryd.func45, Tryd.ntmps45
      go_wp2
      go_ret
      exact ⟨rfl, rfl⟩
    · rw [show decide (1 ≤ o ∧ o ≤ (n : Int)) = false from decide_eq_false (fun q => d q.2)]
      have c2 : o ≥ 1 := c
      go_enter Tryd.func45, Tryd.ntmps45
      go_wp2
      go_ret
      exact ⟨rfl, rfl⟩
  · rw [show decide (1 ≤ o ∧ o ≤ (n : Int)) = false from decide_eq_false (fun q => c q.1)]
    have c2 : ¬ o ≥ 1 := c
    go_enter Tryd.func45, Tryd.ntmps45
    go_wp2
    go_ret
    exact ⟨rfl, rfl⟩

/-- The object of a number, with its rows. -/
def rAt (rs : List Rr) (o : Int) : Option Rr := if 1 ≤ o ∧ o ≤ rs.length then rs[(o - 1).toNat]? else none
def rTab (rs : List Rr) (o : Int) : Option Rr := (rAt rs o).filter fun r => decide (r.om.k = 5)
theorem rAt_some {rs : List Rr} {o : Int} {r : Rr} (h : rAt rs o = some r) : ∃ i : Nat, o = (i : Int) + 1 ∧ (o - 1).toNat = i ∧ i < rs.length ∧ rs[i]? = some r := by
  unfold rAt at h
  split at h
  · exact ⟨(o - 1).toNat, by omega, rfl, by omega, h⟩
  · cases h
theorem rAt_of {rs : List Rr} {o : Int} (h : 1 ≤ o ∧ o ≤ rs.length) : ∃ r, rAt rs o = some r := by
  unfold rAt
  rw [if_pos h]
  exact ⟨rs[(o - 1).toNat]'(by omega), List.getElem?_eq_getElem (by omega)⟩
theorem rAt_none {rs : List Rr} {o : Int} (h : ¬ (1 ≤ o ∧ o ≤ rs.length)) : rAt rs o = none := by unfold rAt; rw [if_neg h]

theorem rhas_any {w : World} {db lim : Nat} {R : Value} {rs : List Rr} {Q : Nat → Prop} (h : Rv w db lim R rs Q) (o : Int) :
    Calls Tryd.prog 38 #[.pointer (some ⟨db, 0, none⟩), .int .i64 o] w fun e w' => e = .returned (.bool (rTab rs o).isSome) ∧ w' = w := by
  have HI := ris_any h o
  by_cases c : 1 ≤ o ∧ o ≤ rs.length
  · rw [show decide (1 ≤ o ∧ o ≤ (rs.length : Int)) = true from decide_eq_true c] at HI
    obtain ⟨r, hr⟩ := rAt_of c
    obtain ⟨i, ho, _, hi, hri⟩ := rAt_some hr
    obtain ⟨a, cap, hR, hf⟩ := h.form
    obtain ⟨g, rfl, _, hc⟩ := hf (by omega)
    have hc0 := h.c0
    rw [hR] at hc0
    have hk := hc i r hri 0 (by omega)
    have hk2 : w.cell? ⟨g, i * 10, none⟩ = some (.int .i64 r.om.k) := hk
    have hres : (rTab rs o).isSome = decide (r.om.k = 5) := by
      unfold rTab
      rw [hr]
      simp only [Option.filter_some]
      by_cases d : r.om.k = 5 <;> simp [d]
    rw [hres]
    have hlen : rs.length ≤ 1048576 := by have := usedR_len rs; have := h.hu; have := h.hl; omega
    have hil : (i : Int) < (rs.length : Int) := by omega
    clear h hR hf hc hk hr hri hres c
    generalize rs.length = n at *
    generalize r.om.k = rk at *
    subst ho
    have e1 : (i : Int) + 1 - 1 = (i : Int) := by omega
    by_cases d : rk = 5
    · subst d
      rw [show decide ((5 : Int) = 5) = true from rfl]
      go_enter Tryd.func38, Tryd.ntmps38
      go_wp2_with fail
      refine HI.mono ?_
      rintro e w' ⟨rfl, rfl⟩
      clear HI
      go_wp2
      go_ret
      exact ⟨rfl, rfl⟩
    · rw [show decide (rk = 5) = false from decide_eq_false d]
      have d2 : (rk == 5) = false := by simpa using d
      go_enter Tryd.func38, Tryd.ntmps38
      go_wp2_with fail
      refine HI.mono ?_
      rintro e w' ⟨rfl, rfl⟩
      clear HI
      go_wp2
      go_ret
      exact ⟨by rw [← d2]; rfl, rfl⟩
  · rw [show decide (1 ≤ o ∧ o ≤ (rs.length : Int)) = false from decide_eq_false c] at HI
    rw [show (rTab rs o).isSome = false by unfold rTab; rw [rAt_none c]; rfl]
    clear h c
    go_enter Tryd.func38, Tryd.ntmps38
    go_wp2_with fail
    refine HI.mono ?_
    rintro e w' ⟨rfl, rfl⟩
    clear HI
    go_wp2
    go_ret
    exact ⟨rfl, rfl⟩

end Go.Proofs.YtjlcdpablnnplaaDoor

/-
  Layer 9: the landed heap's small calls: Set of no table, Table without room, SetMeta, Mark, slots.
-/
namespace Go.Proofs.YtjlcdpablnnplaaDoor
set_option maxRecDepth 100000
open Go.RowKit Flo

set_option maxHeartbeats 1000000 in
theorem Set_none {w : World} {hb lim used : Nat} {R : Value} {os : List Ob} {Z : Nat → Prop} (h : Hv w hb lim used R os Z) (o : Int) (ht : tabOf os o = none) (K N : Int) (S : ByteArray) (O vK vN : Int) (vS : ByteArray) (vO : Int) :
    Calls Tryd.prog 12 #[.pointer (some ⟨hb, 0, none⟩), .int .i64 o, .agg #[.int .i64 K, .int .u64 N, .string S, .int .i64 O], .agg #[.int .i64 vK, .int .u64 vN, .string vS, .int .i64 vO]] w fun e w' => e = .returned (.int .i64 5) ∧ Below w.heap.size w w' := by
  have HT : Hid (∀ w', Below w.heap.size w w' → Calls Tryd.prog 30 #[.pointer (some ⟨hb, 0, none⟩), .int .i64 o] w' fun e w2 => e = .returned (.pointer none) ∧ w2 = w') := fun w' hb' => by
    have := tableOf_hv (h.below hb') o
    rw [show ptrOf os o = none by unfold ptrOf; rw [ht]; rfl] at this
    exact this
  have HB : Hid (Below w.heap.size w ((w.alloc (.cells #[.int .i64 K, .int .u64 N, .string S, .int .i64 O] 35)).alloc (.cells #[.int .i64 vK, .int .u64 vN, .string vS, .int .i64 vO] 35))) := ((Below.refl _ _).alloc (Nat.le_refl _) _).alloc (by simp) _
  clear h ht
  go_enter Tryd.func12, Tryd.ntmps12
  go_wp2_with fail
  refine (HT.out _ HB.out).mono ?_
  rintro e w1 ⟨rfl, rfl⟩
  clear HT
  go_wp2
  go_ret
  exact ⟨rfl, HB.out⟩

set_option maxHeartbeats 1000000 in
theorem table_full {w : World} {hb lim used : Nat} {R : Value} {os : List Ob} {Z : Nat → Prop} (h : Hv w hb lim used R os Z) (hlt : lim ≤ used) :
    Calls Tryd.prog 11 #[.pointer (some ⟨hb, 0, none⟩)] w fun e w' => e = .returned (.tuple #[.int .i64 0, .int .i64 2]) ∧ Below w.heap.size w w' := by
  have hl := left_any hb lim used w h.c0 h.c1 ⟨by omega, by have := h.hl; omega⟩ ⟨by omega, by have := h.hl; have := h.hu; omega⟩
  have hc : ((lim : Int) - (used : Int) < 1) := by omega
  clear h
  go_enter Tryd.func11, Tryd.ntmps11
  go_wp2_with fail
  refine hl.mono ?_
  rintro e w1 ⟨rfl, q, rfl⟩
  have HQ : Hid (Below w.heap.size w (w.drewN q)) := hp_drewN w q
  clear hl
  go_wp2
  go_ret2
  exact ⟨rfl, HQ.out⟩

/-! ### SetMeta -/
set_option maxHeartbeats 1000000 in
theorem SetMeta_none {w : World} {hb lim used : Nat} {R : Value} {os : List Ob} {Z : Nat → Prop} (h : Hv w hb lim used R os Z) (o : Int) (ht : tabOf os o = none) (K N : Int) (S : ByteArray) (O : Int) :
    Calls Tryd.prog 18 #[.pointer (some ⟨hb, 0, none⟩), .int .i64 o, .agg #[.int .i64 K, .int .u64 N, .string S, .int .i64 O]] w fun e w' => e = .returned (.int .i64 5) ∧ Below w.heap.size w w' := by
  have HB : Hid (Below w.heap.size w (w.alloc (.cells #[.int .i64 K, .int .u64 N, .string S, .int .i64 O] 35))) := (Below.refl _ _).alloc (Nat.le_refl _) _
  have HT : Hid (∀ w', Below w.heap.size w w' → Calls Tryd.prog 30 #[.pointer (some ⟨hb, 0, none⟩), .int .i64 o] w' fun e w2 => e = .returned (.pointer none) ∧ w2 = w') := fun w' hb' => by
    have := tableOf_hv (h.below hb') o
    rw [show ptrOf os o = none by unfold ptrOf; rw [ht]; rfl] at this
    exact this
  clear h ht
  go_enter Tryd.func18, Tryd.ntmps18
  go_wp2_with fail
  refine (HT.out _ HB.out).mono ?_
  rintro e w1 ⟨rfl, rfl⟩
  clear HT
  go_wp2
  go_ret
  exact ⟨rfl, HB.out⟩

/-- SetMeta of a table, up to the test: what it does is told by the form of m. -/
theorem SetMeta_of {w : World} {hb lim used i tb : Nat} {R : Value} {os : List Ob} {Z : Nat → Prop} {x : Ob} (h : Hv w hb lim used R os Z) (hi : os[i]? = some x) (ht : x.tb = some tb) (o : Int) (ho : o = (i : Int) + 1) (K N : Int) (S : ByteArray) (O : Int) (hN : U64 N) (nk nn : Int) (ns : ByteArray) (no : Int) (e0 : nK K = nk) (e1 : nN K N = nn) (e2 : nS K S = ns) (e3 : nO K O = no) :
    (nk ≠ 0 → (nk ≠ 5 ∨ tabOf os no = none) → Calls Tryd.prog 18 #[.pointer (some ⟨hb, 0, none⟩), .int .i64 o, .agg #[.int .i64 K, .int .u64 N, .string S, .int .i64 O]] w fun e w' => e = .returned (.int .i64 1) ∧ Below w.heap.size w w') ∧
    (nk = 0 ∨ (nk = 5 ∧ tabOf os no ≠ none) → Calls Tryd.prog 18 #[.pointer (some ⟨hb, 0, none⟩), .int .i64 o, .agg #[.int .i64 K, .int .u64 N, .string S, .int .i64 O]] w fun e w' => e = .returned (.int .i64 0) ∧ Hv w' hb lim used R (os.set i { x with M := ⟨nk, nn, ns, no⟩ }) Z ∧ Wx Z w w') := by
  have HB : Hid (Below w.heap.size w (w.alloc (.cells #[.int .i64 K, .int .u64 N, .string S, .int .i64 O] 35))) := (Below.refl _ _).alloc (Nat.le_refl _) _
  have HT : Hid (∀ w', Below w.heap.size w w' → Calls Tryd.prog 30 #[.pointer (some ⟨hb, 0, none⟩), .int .i64 o] w' fun e w2 => e = .returned (.pointer (some ⟨tb, 0, none⟩)) ∧ w2 = w') := fun w' hb' => by
    have := tableOf_hv (h.below hb') o
    rw [show ptrOf os o = some ⟨tb, 0, none⟩ by unfold ptrOf; rw [ho, tabOf_of hi ht]; simp [Ob.ptr, ht]] at this
    exact this
  have HT2 : Hid (∀ w', Below w.heap.size w w' → Calls Tryd.prog 30 #[.pointer (some ⟨hb, 0, none⟩), .int .i64 no] w' fun e w2 => e = .returned (.pointer (ptrOf os no)) ∧ w2 = w') := fun w' hb' => tableOf_hv (h.below hb') no
  have HN : Hid (∀ w, Calls Tryd.prog 33 #[.agg #[.int .i64 K, .int .u64 N, .string S, .int .i64 O]] w fun e w' => e = .returned (.agg #[.int .i64 nk, .int .u64 nn, .string ns, .int .i64 no]) ∧ Below w.heap.size w w') := fun w => by rw [← e0, ← e1, ← e2, ← e3]; exact normal_any K N S O w hN
  have HQ : Hid (nk = 0 ∨ (nk = 5 ∧ tabOf os no ≠ none) → ∀ w', Below w.heap.size w w' → At4 w' tb 0 x.M ∧ (∀ k, w'.frozen? ⟨tb, k, none⟩ = false) ∧ Hv (set4W w' tb ⟨nk, nn, ns, no⟩) hb lim used R (os.set i { x with M := ⟨nk, nn, ns, no⟩ }) Z ∧ Wx Z w (set4W w' tb ⟨nk, nn, ns, no⟩)) := fun hc w' hb' => by
    have h' := h.below hb'
    have hT := ((h'.ob i x hi).tab tb ht).2.1
    obtain ⟨k1, k2⟩ := h'.meta hi ht ⟨nk, nn, ns, no⟩ (by
      rcases hc with c | ⟨c, d⟩
      · exact Or.inl c
      · obtain ⟨p, hp⟩ := Option.ne_none_iff_exists'.1 d
        obtain ⟨j, tb2, e1, e2, e3⟩ := tabOf_some hp
        exact Or.inr ⟨c, by show 1 ≤ no; omega, p, by show os[(no - 1).toNat]? = _; rw [e1, show ((j : Int) + 1 - 1).toNat = j by omega]; exact e2, by rw [e3]; simp⟩)
    exact ⟨hT.mt, fun k => hT.free tb k hT.own, k1, (Wx.of_below Z hb').trans k2 (fun k hk => Or.inl hk)⟩
  have HPN : Hid (tabOf os no = none → ptrOf os no = none) := fun e => by unfold ptrOf; rw [e]; rfl
  have HPS : Hid (tabOf os no ≠ none → ∃ t2, ptrOf os no = some ⟨t2, 0, none⟩) := fun d => by
    obtain ⟨p, hp⟩ := Option.ne_none_iff_exists'.1 d
    obtain ⟨j, tb2, e1, e2, e3⟩ := tabOf_some hp
    exact ⟨tb2, by unfold ptrOf; rw [hp]; simp [Ob.ptr, e3]⟩
  clear h hi ht ho e0 e1 e2 e3
  constructor
  · intro hk0 hbad
    by_cases hk5 : nk = 5
    · have hno : tabOf os no = none := by
        rcases hbad with c | c
        · exact absurd hk5 c
        · exact c
      rw [HPN.out hno] at HT2
      clear HPN HPS hbad hno HQ
      subst hk5
      go_enter Tryd.func18, Tryd.ntmps18
      go_wp2_with fail
      refine (HT.out _ HB.out).mono ?_
      rintro e w1 ⟨rfl, rfl⟩
      clear HT
      go_wp2_with fail
      refine (HN.out _).mono ?_
      rintro e w1 ⟨rfl, hb1⟩
      obtain ⟨p0, p1, p2, p3⟩ := keep4 (b := w.heap.size) (v0 := .int .i64 K) (v1 := .int .u64 N) (v2 := .string S) (v3 := .int .i64 O) ⟨by go_simp, by go_simp, by go_simp, by go_simp⟩ hb1
      have hf1 : ∀ k, w1.frozen? ⟨w.heap.size, k, none⟩ = false := fun k => (hb1.frozen (by simp)).trans (by go_simp)
      have HB1 : Hid (Below w.heap.size w w1) := HB.out.trans (hb1.mono (by simp))
      clear hb1 HB HN
      go_wp2_with fail
      refine (HT2.out _ ?_).mono ?_
      · exact set41 HB1.out (Nat.le_refl _) _ _ _ _
      rintro e w2 ⟨rfl, hw2⟩
      have hB2 : Hid (Below w.heap.size w w2) := by rw [hw2]; exact set41 HB1.out (Nat.le_refl _) _ _ _ _
      clear hw2 HT2 HB1 p0 p1 p2 p3 hf1
      go_wp2
      go_ret
      exact ⟨rfl, hB2.out⟩
    · clear HT2 HPN HPS hbad HQ
      go_enter Tryd.func18, Tryd.ntmps18
      go_wp2_with fail
      refine (HT.out _ HB.out).mono ?_
      rintro e w1 ⟨rfl, rfl⟩
      clear HT
      go_wp2_with fail
      refine (HN.out _).mono ?_
      rintro e w1 ⟨rfl, hb1⟩
      obtain ⟨p0, p1, p2, p3⟩ := keep4 (b := w.heap.size) (v0 := .int .i64 K) (v1 := .int .u64 N) (v2 := .string S) (v3 := .int .i64 O) ⟨by go_simp, by go_simp, by go_simp, by go_simp⟩ hb1
      have hf1 : ∀ k, w1.frozen? ⟨w.heap.size, k, none⟩ = false := fun k => (hb1.frozen (by simp)).trans (by go_simp)
      have HB1 : Hid (Below w.heap.size w w1) := HB.out.trans (hb1.mono (by simp))
      have HB2 : Hid (Below w.heap.size w ((((w1.setCell ⟨w.heap.size, 0, none⟩ (.int .i64 nk)).setCell ⟨w.heap.size, 1, none⟩ (.int .u64 nn)).setCell ⟨w.heap.size, 2, none⟩ (.string ns)).setCell ⟨w.heap.size, 3, none⟩ (.int .i64 no))) := set41 HB1.out (Nat.le_refl _) _ _ _ _
      clear hb1 HB HN HB1
      go_wp2
      go_ret
      exact ⟨rfl, HB2.out⟩
  · intro hgood
    have HQ2 : Hid (∀ w', Below w.heap.size w w' → At4 w' tb 0 x.M ∧ (∀ k, w'.frozen? ⟨tb, k, none⟩ = false) ∧ Hv (set4W w' tb ⟨nk, nn, ns, no⟩) hb lim used R (os.set i { x with M := ⟨nk, nn, ns, no⟩ }) Z ∧ Wx Z w (set4W w' tb ⟨nk, nn, ns, no⟩)) := HQ.out hgood
    clear HQ HPN
    by_cases hk0 : nk = 0
    · clear HT2 HPS hgood
      go_enter Tryd.func18, Tryd.ntmps18
      go_wp2_with fail
      refine (HT.out _ HB.out).mono ?_
      rintro e w1 ⟨rfl, rfl⟩
      clear HT
      go_wp2_with fail
      refine (HN.out _).mono ?_
      rintro e w1 ⟨rfl, hb1⟩
      obtain ⟨p0, p1, p2, p3⟩ := keep4 (b := w.heap.size) (v0 := .int .i64 K) (v1 := .int .u64 N) (v2 := .string S) (v3 := .int .i64 O) ⟨by go_simp, by go_simp, by go_simp, by go_simp⟩ hb1
      have hf1 : ∀ k, w1.frozen? ⟨w.heap.size, k, none⟩ = false := fun k => (hb1.frozen (by simp)).trans (by go_simp)
      have HB1 : Hid (Below w.heap.size w w1) := HB.out.trans (hb1.mono (by simp))
      clear hb1 HB HN
      obtain ⟨W2, hW2⟩ : ∃ W2, W2 = (((w1.setCell ⟨w.heap.size, 0, none⟩ (.int .i64 nk)).setCell ⟨w.heap.size, 1, none⟩ (.int .u64 nn)).setCell ⟨w.heap.size, 2, none⟩ (.string ns)).setCell ⟨w.heap.size, 3, none⟩ (.int .i64 no) := ⟨_, rfl⟩
      have hB2 : Below w.heap.size w W2 := by rw [hW2]; exact set41 HB1.out (Nat.le_refl _) _ _ _ _
      obtain ⟨ha, hf, hv, hx⟩ := HQ2.out W2 hB2
      have HF : Hid (Hv (set4W W2 tb ⟨nk, nn, ns, no⟩) hb lim used R (os.set i { x with M := ⟨nk, nn, ns, no⟩ }) Z ∧ Wx Z w (set4W W2 tb ⟨nk, nn, ns, no⟩)) := ⟨hv, hx⟩
      have a0 := ha.c0
      have a1 := ha.c1
      have a2 := ha.c2
      have a3 := ha.c3
      simp only [Nat.zero_add] at a1 a2 a3
      clear hv hx ha hB2 HQ2 HB1
      rw [hW2] at a0 a1 a2 a3 hf HF
      clear hW2
      subst hk0
      go_wp2
      go_ret
      exact ⟨rfl, HF.out⟩
    · have hk5 : nk = 5 := by omega
      have hsome : tabOf os no ≠ none := by
        rcases hgood with c | c
        · exact absurd c hk0
        · exact c.2
      obtain ⟨t2, ht2⟩ := HPS.out hsome
      rw [ht2] at HT2
      clear HPS hsome ht2 hk0 hgood
      subst hk5
      go_enter Tryd.func18, Tryd.ntmps18
      go_wp2_with fail
      refine (HT.out _ HB.out).mono ?_
      rintro e w1 ⟨rfl, rfl⟩
      clear HT
      go_wp2_with fail
      refine (HN.out _).mono ?_
      rintro e w1 ⟨rfl, hb1⟩
      obtain ⟨p0, p1, p2, p3⟩ := keep4 (b := w.heap.size) (v0 := .int .i64 K) (v1 := .int .u64 N) (v2 := .string S) (v3 := .int .i64 O) ⟨by go_simp, by go_simp, by go_simp, by go_simp⟩ hb1
      have hf1 : ∀ k, w1.frozen? ⟨w.heap.size, k, none⟩ = false := fun k => (hb1.frozen (by simp)).trans (by go_simp)
      have HB1 : Hid (Below w.heap.size w w1) := HB.out.trans (hb1.mono (by simp))
      clear hb1 HB HN
      go_wp2_with fail
      refine (HT2.out _ ?_).mono ?_
      · exact set41 HB1.out (Nat.le_refl _) _ _ _ _
      rintro e w2 ⟨rfl, hw2⟩
      have hB2 : Below w.heap.size w w2 := by rw [hw2]; exact set41 HB1.out (Nat.le_refl _) _ _ _ _
      have r0 : w2.cell? ⟨w.heap.size, 0, none⟩ = some (.int .i64 5) := by rw [hw2]; go_simp
      have r1 : w2.cell? ⟨w.heap.size, 1, none⟩ = some (.int .u64 nn) := by rw [hw2]; go_simp
      have r2 : w2.cell? ⟨w.heap.size, 2, none⟩ = some (.string ns) := by rw [hw2]; go_simp
      have r3 : w2.cell? ⟨w.heap.size, 3, none⟩ = some (.int .i64 no) := by rw [hw2]; go_simp
      obtain ⟨ha, hf, hv, hx⟩ := HQ2.out w2 hB2
      have a0 := ha.c0
      have a1 := ha.c1
      have a2 := ha.c2
      have a3 := ha.c3
      simp only [Nat.zero_add] at a1 a2 a3
      have HF : Hid (Hv (set4W w2 tb ⟨5, nn, ns, no⟩) hb lim used R (os.set i { x with M := ⟨5, nn, ns, no⟩ }) Z ∧ Wx Z w (set4W w2 tb ⟨5, nn, ns, no⟩)) := ⟨hv, hx⟩
      clear hv hx ha hB2 hw2 HQ2 HT2 HB1 p0 p1 p2 p3 hf1
      go_wp2
      go_ret
      exact ⟨rfl, HF.out⟩

end Go.Proofs.YtjlcdpablnnplaaDoor

/-
  Layer 9: what calls do to objects by lists; the landed Set, whole.
-/
namespace Go.Proofs.YtjlcdpablnnplaaDoor
set_option maxRecDepth 100000
open Go.RowKit Flo

def En.k4 (e : En) : V4 := ⟨e.K, e.N, e.S, e.O⟩
def En.v4 (e : En) : V4 := ⟨e.vK, e.vN, e.vS, e.vO⟩
def Ob.om (o : Ob) : Om := ⟨o.k, o.a, o.b, o.M, o.es.map En.k4, o.es.map En.v4, o.sl⟩
theorem Ob.om_wt (o : Ob) : o.om.wt = o.wt := by simp [Ob.om, Om.wt, Ob.wt]
def usedM (L : List Om) : Nat := (L.map Om.wt).sum
theorem used_om (os : List Ob) : usedM (os.map Ob.om) = (os.map Ob.wt).sum := by
  unfold usedM
  rw [List.map_map]
  congr 1
  exact List.map_congr_left (fun o _ => o.om_wt)
theorem used_rom (rs : List Rr) : usedM (rs.map Rr.om) = usedR rs := by
  unfold usedM usedR
  rw [List.map_map]
  rfl
/-- The object of a number. -/
def atM (L : List Om) (o : Int) : Option Om := if 1 ≤ o ∧ o ≤ L.length then L[(o - 1).toNat]? else none
def tabM (L : List Om) (o : Int) : Option Om := (atM L o).filter fun x => decide (x.k = 5)
def isV (a b : V4) : Bool := decide (a.K = b.K ∧ a.N = b.N ∧ a.S = b.S ∧ a.O = b.O)
theorem isV_eq {a b : V4} : isV a b = true ↔ a = b := by
  unfold isV
  rw [decide_eq_true_iff]
  constructor
  · rintro ⟨h1, h2, h3, h4⟩
    cases a; cases b
    simp only at h1 h2 h3 h4
    subst h1; subst h2; subst h3; subst h4
    rfl
  · rintro rfl
    exact ⟨rfl, rfl, rfl, rfl⟩
def placeM (ks : List V4) (k : V4) : Option Nat := ks.findIdx? fun x => isV x k
def keyV (k : V4) : V4 := ⟨yK k.K k.N, yN k.K k.N, yS k.K k.N k.S, yO k.K k.N k.O⟩
def norV (v : V4) : V4 := ⟨nK v.K, nN v.K v.N, nS v.K v.S, nO v.K v.O⟩
def setM (lim : Nat) (L : List Om) (o : Int) (k v : V4) : Int × List Om := match tabM L o with
  | none => (5, L)
  | some x => if kok k.K k.N = false then (1, L) else match placeM x.ks (keyV k) with
    | none => if nK v.K = 0 then (0, L) else if usedM L < lim then (0, L.set (o - 1).toNat { x with ks := x.ks ++ [keyV k], vs := x.vs ++ [norV v] }) else (2, L)
    | some j => if nK v.K = 0 then (0, L.set (o - 1).toNat { x with ks := x.ks.eraseIdx j, vs := x.vs.eraseIdx j }) else (0, L.set (o - 1).toNat { x with vs := x.vs.set j (norV v) })

/-- The landed heap is these objects. -/
def LH (w : World) (hb lim : Nat) (L : List Om) (Z : Nat → Prop) : Prop := ∃ used R os, Hv w hb lim used R os Z ∧ os.map Ob.om = L
def LP (w : World) (hb lim : Nat) (L : List Om) (Z : Nat → Prop) (w' : World) : Prop := ∃ Z', LH w' hb lim L Z' ∧ Wx Z w w' ∧ ∀ k, Z' k → Z k ∨ w.heap.size ≤ k
theorem LH.below {w w' : World} {hb lim : Nat} {L : List Om} {Z : Nat → Prop} (h : LH w hb lim L Z) (k : Below w.heap.size w w') : LP w hb lim L Z w' := by
  obtain ⟨used, R, os, h1, h2⟩ := h
  exact ⟨Z, ⟨used, R, os, h1.below k, h2⟩, Wx.of_below Z k, fun _ c => Or.inl c⟩
theorem LP.from {w w1 w' : World} {hb lim : Nat} {L : List Om} {Z : Nat → Prop} (k : Below w.heap.size w w1) (h : LP w1 hb lim L Z w') : LP w hb lim L Z w' := by
  obtain ⟨Z', h1, h2, h3⟩ := h
  refine ⟨Z', h1, (Wx.of_below Z k).trans h2 (fun _ c => Or.inl c), fun i hi => ?_⟩
  rcases h3 i hi with c | c
  · exact Or.inl c
  · exact Or.inr (Nat.le_trans k.size c)

theorem atM_map (os : List Ob) (o : Int) : atM (os.map Ob.om) o = if 1 ≤ o ∧ o ≤ os.length then (os[(o - 1).toNat]?).map Ob.om else none := by
  unfold atM
  rw [List.length_map, List.getElem?_map]
theorem tabM_none {w : World} {hb lim used : Nat} {R : Value} {os : List Ob} {Z : Nat → Prop} (h : Hv w hb lim used R os Z) {o : Int} : tabM (os.map Ob.om) o = none ↔ tabOf os o = none := by
  unfold tabM tabOf
  rw [atM_map]
  by_cases c : 1 ≤ o ∧ o ≤ os.length
  · rw [if_pos c, if_pos c]
    cases hx : os[(o - 1).toNat]? with
    | none => simp
    | some x =>
      have hv := h.ob _ x hx
      simp only [Option.map_some, Option.filter_some]
      cases ht : x.tb with
      | none =>
        have hk := (hv.oth ht).1.2
        have : ¬ x.om.k = 5 := hk
        simp [this]
      | some tb =>
        have hk := (hv.tab tb ht).1.1
        have : x.om.k = 5 := hk
        simp [this]
  · rw [if_neg c, if_neg c]; simp
theorem tabM_some {w : World} {hb lim used : Nat} {R : Value} {os : List Ob} {Z : Nat → Prop} (h : Hv w hb lim used R os Z) {o : Int} {m : Om} (hm : tabM (os.map Ob.om) o = some m) :
    ∃ (i tb : Nat) (x : Ob), o = (i : Int) + 1 ∧ (o - 1).toNat = i ∧ os[i]? = some x ∧ x.tb = some tb ∧ m = x.om := by
  cases ht : tabOf os o with
  | none => rw [(tabM_none h).2 ht] at hm; cases hm
  | some x =>
    obtain ⟨i, tb, ho, hi, htb⟩ := tabOf_some ht
    refine ⟨i, tb, x, ho, by omega, hi, htb, ?_⟩
    unfold tabM at hm
    rw [atM_map] at hm
    have hil : i < os.length := by
      rcases Nat.lt_or_ge i os.length with c | c
      · exact c
      · rw [List.getElem?_eq_none c] at hi; cases hi
    rw [if_pos (by omega), show (o - 1).toNat = i by omega, hi] at hm
    simp only [Option.map_some, Option.filter_some] at hm
    split at hm
    · exact (Option.some.inj hm).symm
    · cases hm

theorem isV_k4 (e : En) (k : V4) : isV e.k4 k = decide (e.K = k.K ∧ e.N = k.N ∧ e.S = k.S ∧ e.O = k.O) := rfl
theorem place_none {es : List En} {k : V4} : placeM (es.map En.k4) k = none ↔ ofKey k.K k.N k.S k.O es = none := by
  unfold placeM ofKey
  rw [List.findIdx?_map, List.findIdx?_eq_none_iff, List.find?_eq_none]
  constructor
  · intro h e he
    have h1 : isV e.k4 k = false := h e he
    rw [isV_k4] at h1
    rw [h1]; decide
  · intro h e he
    show isV e.k4 k = false
    rw [isV_k4]
    exact Bool.eq_false_iff.2 (h e he)
theorem place_some {es : List En} {k : V4} {f : En} (h : ofKey k.K k.N k.S k.O es = some f) : ∃ xo yo, es = xo ++ f :: yo ∧ placeM (es.map En.k4) k = some xo.length := by
  unfold ofKey at h
  obtain ⟨h1, xo, yo, h2, h3⟩ := List.find?_eq_some_iff_append.1 h
  refine ⟨xo, yo, h2, ?_⟩
  unfold placeM
  rw [List.findIdx?_map, h2, List.findIdx?_append]
  have hn : List.findIdx? ((fun x => isV x k) ∘ En.k4) xo = none := by
    rw [List.findIdx?_eq_none_iff]
    intro e he
    have h4 := h3 e he
    show isV e.k4 k = false
    rw [isV_k4]
    simpa only [Bool.not_eq_true'] using h4
  rw [hn]
  have hy : isV f.k4 k = true := by rw [isV_k4]; exact h1
  simp [List.findIdx?_cons, hy]

/-- One object becomes another: on lists. -/
theorem om_set (os : List Ob) (i : Nat) (x : Ob) : (os.set i x).map Ob.om = (os.map Ob.om).set i x.om := List.map_set
theorem set_same {α : Type} : ∀ (l : List α) (i : Nat) (x : α), l[i]? = some x → l.set i x = l
  | [], i, x, h => by simp at h
  | p :: l, 0, x, h => by
    simp only [List.getElem?_cons_zero, Option.some.injEq] at h
    subst h; rfl
  | p :: l, i + 1, x, h => by
    rw [List.getElem?_cons_succ] at h
    rw [List.set_cons_succ, set_same l i x h]

theorem map_key_up (l : List En) (b : Nat) (v : V4) : (l.map (upV b v)).map En.k4 = l.map En.k4 := by
  rw [List.map_map]
  refine List.map_congr_left (fun e _ => ?_)
  show (upV b v e).k4 = e.k4
  unfold upV
  split <;> rfl
theorem map_val_out (l : List En) (b : Nat) (v : V4) (h : ∀ e ∈ l, e.b ≠ b) : (l.map (upV b v)).map En.v4 = l.map En.v4 := by
  rw [List.map_map]
  refine List.map_congr_left (fun e he => ?_)
  show (upV b v e).v4 = e.v4
  unfold upV
  rw [if_neg (h e he)]
theorem map_val_up {xo yo : List En} {f : En} (v : V4) (hn : ((xo ++ f :: yo).map En.b).Nodup) : ((xo ++ f :: yo).map (upV f.b v)).map En.v4 = ((xo ++ f :: yo).map En.v4).set xo.length v := by
  rw [List.map_append, List.map_cons] at hn
  have h1 := List.nodup_append.1 hn
  have h2 := List.nodup_cons.1 h1.2.1
  have hx : ∀ e ∈ xo, e.b ≠ f.b := fun e he => h1.2.2 _ (List.mem_map_of_mem he) _ List.mem_cons_self
  have hy : ∀ e ∈ yo, e.b ≠ f.b := fun e he c => h2.1 (by rw [← c]; exact List.mem_map_of_mem he)
  rw [List.map_append, List.map_append, map_val_out xo f.b v hx, List.map_cons, List.map_cons, map_val_out yo f.b v hy, List.map_append, List.map_cons]
  have hl : xo.length = (xo.map En.v4).length := by simp
  rw [hl, List.set_append_right _ _ (Nat.le_refl _), Nat.sub_self, List.set_cons_zero]
  congr 2
  unfold upV
  rw [if_pos rfl]
  rfl
theorem erase_mid {α : Type} (xo yo : List α) (f : α) : (xo ++ f :: yo).eraseIdx xo.length = xo ++ yo := by
  rw [List.eraseIdx_append_of_length_le (Nat.le_refl _), Nat.sub_self]
  rfl

theorem Or.once' {w : World} {tb : Nat} {X : Nat → Prop} {es : List En} {M : V4} (h : Tv w tb X es M) : (es.map En.b).Nodup := h.ord.once

/-- Set, whole. -/
theorem lset_any {w : World} {hb lim : Nat} {L : List Om} {Z : Nat → Prop} (h : LH w hb lim L Z) (o : Int) (k v : V4) (hN : U64 k.N) (hvN : U64 v.N) (hS : k.S.size ≤ 9223372036854775807) :
    Calls Tryd.prog 12 #[.pointer (some ⟨hb, 0, none⟩), .int .i64 o, .agg #[.int .i64 k.K, .int .u64 k.N, .string k.S, .int .i64 k.O], .agg #[.int .i64 v.K, .int .u64 v.N, .string v.S, .int .i64 v.O]] w fun e w' => e = .returned (.int .i64 (setM lim L o k v).1) ∧ LP w hb lim (setM lim L o k v).2 Z w' := by
  obtain ⟨used, R, os, hv, rfl⟩ := h
  have hun : used = usedM (os.map Ob.om) := by rw [used_om]; exact hv.sum
  cases ht : tabM (os.map Ob.om) o with
  | none =>
    have hs : setM lim (os.map Ob.om) o k v = (5, os.map Ob.om) := by unfold setM; rw [ht]
    rw [hs]
    have ht2 := (tabM_none hv).1 ht
    refine (Set_none hv o ht2 k.K k.N k.S k.O v.K v.N v.S v.O).mono ?_
    rintro e w' ⟨rfl, hb1⟩
    exact ⟨rfl, LH.below ⟨used, R, os, hv, rfl⟩ hb1⟩
  | some m =>
    obtain ⟨i, tb, x, ho, hoi, hi, htb, rfl⟩ := tabM_some hv ht
    have htv := ((hv.ob i x hi).tab tb htb).2.1
    by_cases hko : kok k.K k.N = false
    · have hs : setM lim (os.map Ob.om) o k v = (1, os.map Ob.om) := by unfold setM; rw [ht]; simp only; rw [if_pos hko]
      rw [hs]
      refine (Set_no hv hi htb o ho k.K k.N k.S k.O v.K v.N v.S v.O hN hko).mono ?_
      rintro e w' ⟨rfl, hb1⟩
      exact ⟨rfl, LH.below ⟨used, R, os, hv, rfl⟩ hb1⟩
    · have hkt : kok k.K k.N = true := by simpa using hko
      have hkey : keyP (keyV k).K (keyV k).N (keyV k).S (keyV k).O := keyP_y k.S k.O hkt
      have hkN : U64 (keyV k).N := yN_u64 hN
      have hkS : (keyV k).S.size ≤ 9223372036854775807 := yS_size hS
      cases hp : ofKey (keyV k).K (keyV k).N (keyV k).S (keyV k).O x.es with
      | none =>
        have hpl : placeM x.om.ks (keyV k) = none := place_none.2 hp
        by_cases hv0 : nK v.K = 0
        · have hs : setM lim (os.map Ob.om) o k v = (0, os.map Ob.om) := by unfold setM; rw [ht]; simp only; rw [if_neg hko, hpl]; simp only; rw [if_pos hv0]
          rw [hs]
          refine (Set_of hv hi htb o ho k.K k.N k.S k.O v.K v.N v.S v.O hN hvN hkt 0 (fun w' => LP w hb lim (os.map Ob.om) Z w') (fun w1 hb1 => ?_)).mono (fun e w' hh => hh)
          rw [hv0]
          refine (set_nil (hv.below hb1) hi htb _ _ _ _ _ _ _ hkS hp).mono ?_
          rintro e w' ⟨rfl, hb2⟩
          exact ⟨rfl, LH.below ⟨used, R, os, hv, rfl⟩ (hb1.trans (hb2.mono hb1.size)), Wx.of_below Z hb2⟩
        · by_cases hlt : used < lim
          · have hs : setM lim (os.map Ob.om) o k v = (0, (os.map Ob.om).set i { x.om with ks := x.om.ks ++ [keyV k], vs := x.om.vs ++ [norV v] }) := by unfold setM; rw [ht]; simp only; rw [if_neg hko, hpl]; simp only; rw [if_neg hv0, if_pos (by rw [← hun]; exact hlt), hoi]
            rw [hs]
            refine (Set_of hv hi htb o ho k.K k.N k.S k.O v.K v.N v.S v.O hN hvN hkt 0 (fun w' => LP w hb lim ((os.map Ob.om).set i { x.om with ks := x.om.ks ++ [keyV k], vs := x.om.vs ++ [norV v] }) Z w') (fun w1 hb1 => ?_)).mono (fun e w' hh => hh)
            refine (set_add (hv.below hb1) hi htb _ _ _ _ _ _ _ _ hkey hkN hkS hv0 hp hlt).mono ?_
            rintro e w' ⟨rfl, b, X', c1, c2⟩
            refine ⟨rfl, LP.from hb1 ⟨_, ⟨_, _, _, c1, ?_⟩, c2, fun j hj => ?_⟩, c2⟩
            · rw [om_set]
              congr 1
              simp [Ob.om, En.k4, En.v4, keyV, norV]
            · rcases hj with c | c
              · exact Or.inl c
              · exact Or.inr c.1
          · have hs : setM lim (os.map Ob.om) o k v = (2, os.map Ob.om) := by unfold setM; rw [ht]; simp only; rw [if_neg hko, hpl]; simp only; rw [if_neg hv0, if_neg (by rw [← hun]; exact hlt)]
            rw [hs]
            refine (Set_of hv hi htb o ho k.K k.N k.S k.O v.K v.N v.S v.O hN hvN hkt 2 (fun w' => LP w hb lim (os.map Ob.om) Z w') (fun w1 hb1 => ?_)).mono (fun e w' hh => hh)
            refine (set_full (hv.below hb1) hi htb _ _ _ _ _ _ _ _ hkS hv0 hp (by omega)).mono ?_
            rintro e w' ⟨rfl, hb2⟩
            exact ⟨rfl, LH.below ⟨used, R, os, hv, rfl⟩ (hb1.trans (hb2.mono hb1.size)), Wx.of_below Z hb2⟩
      | some f =>
        obtain ⟨xo, yo, hes, hpl⟩ := place_some hp
        have hpl2 : placeM x.om.ks (keyV k) = some xo.length := hpl
        have hfl : ∃ q, x.es[q]? = some f := List.mem_iff_getElem?.1 (by rw [hes]; simp)
        by_cases hv0 : nK v.K = 0
        · have hs : setM lim (os.map Ob.om) o k v = (0, (os.map Ob.om).set i { x.om with ks := x.om.ks.eraseIdx xo.length, vs := x.om.vs.eraseIdx xo.length }) := by unfold setM; rw [ht]; simp only; rw [if_neg hko, hpl2]; simp only; rw [if_pos hv0, hoi]
          rw [hs]
          refine (Set_of hv hi htb o ho k.K k.N k.S k.O v.K v.N v.S v.O hN hvN hkt 0 (fun w' => LP w hb lim ((os.map Ob.om).set i { x.om with ks := x.om.ks.eraseIdx xo.length, vs := x.om.vs.eraseIdx xo.length }) Z w') (fun w1 hb1 => ?_)).mono (fun e w' hh => hh)
          rw [hv0]
          refine (set_drop (hv.below hb1) hi htb _ _ _ _ _ _ _ hkS hp xo yo hes).mono ?_
          rintro e w' ⟨rfl, X', c1, c2⟩
          refine ⟨rfl, LP.from hb1 ⟨_, ⟨_, _, _, c1, ?_⟩, c2, fun j hj => ?_⟩, c2⟩
          · rw [om_set]
            congr 1
            have e1 : x.om.ks = (xo.map En.k4) ++ f.k4 :: (yo.map En.k4) := by simp [Ob.om, hes]
            have e2 : x.om.vs = (xo.map En.v4) ++ f.v4 :: (yo.map En.v4) := by simp [Ob.om, hes]
            rw [e1, e2]
            have l1 : xo.length = (xo.map En.k4).length := by simp
            have l2 : xo.length = (xo.map En.v4).length := by simp
            rw [show ((xo.map En.k4) ++ f.k4 :: (yo.map En.k4)).eraseIdx xo.length = xo.map En.k4 ++ yo.map En.k4 by rw [l1]; exact erase_mid _ _ _, show ((xo.map En.v4) ++ f.v4 :: (yo.map En.v4)).eraseIdx xo.length = xo.map En.v4 ++ yo.map En.v4 by rw [l2]; exact erase_mid _ _ _]
            simp [Ob.om]
          · rcases hj with c | c
            · exact Or.inl c
            · exact Or.inr c.1
        · have hs : setM lim (os.map Ob.om) o k v = (0, (os.map Ob.om).set i { x.om with vs := x.om.vs.set xo.length (norV v) }) := by unfold setM; rw [ht]; simp only; rw [if_neg hko, hpl2]; simp only; rw [if_neg hv0, hoi]
          rw [hs]
          refine (Set_of hv hi htb o ho k.K k.N k.S k.O v.K v.N v.S v.O hN hvN hkt 0 (fun w' => LP w hb lim ((os.map Ob.om).set i { x.om with vs := x.om.vs.set xo.length (norV v) }) Z w') (fun w1 hb1 => ?_)).mono (fun e w' hh => hh)
          refine (set_over (hv.below hb1) hi htb _ _ _ _ _ _ _ _ hkS hv0 hp).mono ?_
          rintro e w' ⟨rfl, c1, c2⟩
          refine ⟨rfl, LP.from hb1 ⟨_, ⟨_, _, _, c1, ?_⟩, c2, fun j hj => ?_⟩, c2⟩
          · rw [om_set]
            congr 1
            have hon := htv.ord.once
            rw [hes] at hon
            have e2 := map_val_up (norV v) hon
            have e1 := map_key_up (xo ++ f :: yo) f.b (norV v)
            show Om.mk _ _ _ _ _ _ _ = _
            simp only [Ob.om]
            rw [hes]
            congr 1
          · rcases hj with c | c
            · exact Or.inl c
            · exact Or.inr c.1

end Go.Proofs.YtjlcdpablnnplaaDoor

/-
  Layer 9: the reference's place.
-/
namespace Go.Proofs.YtjlcdpablnnplaaDoor
set_option maxRecDepth 100000
open Go.RowKit Flo

/-- An object as a value. -/
def Rr.val (r : Rr) : Value := .agg #[.int .i64 r.om.k, r.kv, r.vv, .int .i64 r.om.M.K, .int .u64 r.om.M.N, .string r.om.M.S, .int .i64 r.om.M.O, .int .i64 r.om.a, .int .i64 r.om.b, r.sv]
/-- A place as a number. -/
def plN (p : Option Nat) : Int := match p with
  | some j => (j : Int)
  | none => -1

theorem place_skip {ks : List V4} {k : V4} {j : Nat} (hj : j < ks.length) (h : ∀ i (hi : i < j), isV (ks[i]'(by omega)) k = false) (he : isV ks[j] k = true) : placeM ks k = some j := by
  unfold placeM
  rw [List.findIdx?_eq_some_iff_getElem]
  exact ⟨hj, he, fun i hi => by rw [h i hi]; decide⟩
theorem place_all {ks : List V4} {k : V4} (h : ∀ i (hi : i < ks.length), isV ks[i] k = false) : placeM ks k = none := by
  unfold placeM
  rw [List.findIdx?_eq_none_iff]
  intro x hx
  obtain ⟨i, hi, rfl⟩ := List.mem_iff_getElem.1 hx
  exact h i hi

theorem text_inj1 {a b : ByteArray} (h : a.toList = b.toList) : a = b := text_inj0 h
theorem isV_not {x k : V4} (h : isV x k = false) : ¬ x.K = k.K ∨ (x.K = k.K ∧ ¬ x.N = k.N) ∨ (x.K = k.K ∧ x.N = k.N ∧ ¬ x.S.toList = k.S.toList) ∨ (x.K = k.K ∧ x.N = k.N ∧ x.S = k.S ∧ ¬ x.O = k.O) := by
  have hq : ¬ (x.K = k.K ∧ x.N = k.N ∧ x.S = k.S ∧ x.O = k.O) := of_decide_eq_false h
  by_cases a : x.K = k.K
  · by_cases b : x.N = k.N
    · by_cases c : x.S = k.S
      · exact .inr (.inr (.inr ⟨a, b, c, fun d => hq ⟨a, b, c, d⟩⟩))
      · exact .inr (.inr (.inl ⟨a, b, fun d => c (text_inj0 d)⟩))
    · exact .inr (.inl ⟨a, b⟩)
  · exact .inl a

set_option maxHeartbeats 2000000 in
theorem place_any (r : Rr) (k : V4) (w : World) (h : Vr w r.kv r.om.ks) (hvv : ∃ a n c, r.vv = .slice a n c) (hsv : ∃ a n c, r.sv = .slice a n c) (hl : r.om.ks.length ≤ 1048576) :
    Calls Tryd.prog 41 #[r.val, .agg #[.int .i64 k.K, .int .u64 k.N, .string k.S, .int .i64 k.O]] w fun e w' => e = .returned (.int .i64 (plN (placeM r.om.ks k))) ∧ Below w.heap.size w w' := by
  obtain ⟨a, cap, hkv, hf⟩ := h.form
  have HP : Hid (∀ j (hj : j < r.om.ks.length), (∀ i (hi : i < j), isV (r.om.ks[i]'(by omega)) k = false) → isV r.om.ks[j] k = true → plN (placeM r.om.ks k) = (j : Int)) := fun j hj h1 h2 => by rw [place_skip hj h1 h2]; rfl
  have HA : Hid ((∀ i (hi : i < r.om.ks.length), isV r.om.ks[i] k = false) → plN (placeM r.om.ks k) = -1) := fun h1 => by rw [place_all h1]; rfl
  have HF : Hid (∀ j (hj : j < r.om.ks.length), ∃ g, a = some ⟨g, 0, none⟩ ∧ g < w.heap.size ∧ At4 w g (j * 4) r.om.ks[j]) := fun j hj => by
    obtain ⟨g, e, hg, hc⟩ := hf (by omega)
    exact ⟨g, e, hg, hc j _ (List.getElem?_eq_getElem hj)⟩
  generalize plN (placeM r.om.ks k) = res at *
  obtain ⟨⟨rk, ra, rb, ⟨mK, mN, mS, mO⟩, ks, vs, sl⟩, kv, vv, sv⟩ := r
  simp only at hkv HP HA HF hl hvv hsv
  subst hkv
  obtain ⟨va, vn, vc, rfl⟩ := hvv
  obtain ⟨sa, sn, sc, rfl⟩ := hsv
  obtain ⟨n, hn⟩ : ∃ n, n = ks.length := ⟨_, rfl⟩
  have HN : Hid (n = ks.length) := hn
  rw [← hn] at hl
  simp only [Rr.val]
  rw [← hn]
  clear h hf hn
  have HB0 : Hid (Below w.heap.size w ((w.alloc (.cells #[.int .i64 rk, .slice a n cap, .slice va vn vc, .int .i64 mK, .int .u64 mN, .string mS, .int .i64 mO, .int .i64 ra, .int .i64 rb, .slice sa sn sc] 63)).alloc (.cells #[.int .i64 k.K, .int .u64 k.N, .string k.S, .int .i64 k.O] 35))) := ((Below.refl _ _).alloc (Nat.le_refl _) _).alloc (by simp) _
  go_enter Tryd.func41, Tryd.ntmps41
  go_wp2_with fail
  go_loopg [5] n (fun kk t5 wr => ∃ j : Nat, t5 = .int .i64 (j : Int) ∧ j ≤ n ∧ wr.cell? ⟨w.heap.size, 1, none⟩ = some (.slice a n cap) ∧ wr.cell? ⟨w.heap.size + 1, 0, none⟩ = some (.int .i64 k.K) ∧ wr.cell? ⟨w.heap.size + 1, 1, none⟩ = some (.int .u64 k.N) ∧ wr.cell? ⟨w.heap.size + 1, 2, none⟩ = some (.string k.S) ∧ wr.cell? ⟨w.heap.size + 1, 3, none⟩ = some (.int .i64 k.O) ∧
    Hid (kk = n - j ∧ Below w.heap.size w wr ∧ ∀ i (hi : i < j) (hl : i < ks.length), isV ks[i] k = false))
  case atStart => exact ⟨0, rfl, Nat.zero_le _, by go_simp, by go_simp, by go_simp, by go_simp, by go_simp, ⟨rfl, HB0.out, fun i hi => by omega⟩⟩
  case round =>
    obtain ⟨j, rfl, hj, b1, k0, k1, k2, k3, HI⟩ := hrel
    by_cases c : j < n
    · have hjl : j < ks.length := by rw [← HN.out]; exact c
      obtain ⟨g, rfl, hg, hc⟩ := HF.out j hjl
      have ci : (j : Int) < (n : Int) := by omega
      obtain ⟨x, hx⟩ : ∃ x, x = ks[j] := ⟨_, rfl⟩
      rw [← hx] at hc
      have x0 := (HI.out.2.1.cell hg).trans hc.c0
      have x1 := (HI.out.2.1.cell hg).trans hc.c1
      have x2 := (HI.out.2.1.cell hg).trans hc.c2
      have x3 := (HI.out.2.1.cell hg).trans hc.c3
      have HX : Hid (x = ks[j]) := hx
      clear hx hc
      cases hv : isV x k with
      | true =>
        have hxk := isV_eq.1 hv
        have HR : Hid (res = (j : Int)) := HP.out j hjl (fun i hi => HI.out.2.2 i hi _) (by rw [← HX.out]; exact hv)
        subst hxk
        clear HP HA HF HX hv
        go_wp2_with fail
        go_region
        go_wp2
        go_ret
        exact ⟨by rw [HR.out]; rfl, HI.out.2.1.drew⟩
      | false =>
        have HV : Hid (isV x k = false) := hv
        have hq := isV_not hv
        have HNX : Hid (∀ i (hi : i < j + 1) (hl : i < ks.length), isV ks[i] k = false) := fun i hi hl => by
          by_cases d : i = j
          · subst d; rw [← HX.out]; exact HV.out
          · exact HI.out.2.2 i (by omega) hl
        clear HP HA HF HX hv HV
        obtain ⟨xK, xN, xS, xO⟩ := x
        obtain ⟨kK, kN, kS, kO⟩ := k
        simp only at hq x0 x1 x2 x3 k0 k1 k2 k3
        rcases hq with q | ⟨rfl, q⟩ | ⟨rfl, rfl, q⟩ | ⟨rfl, rfl, rfl, q⟩
        all_goals
          go_wp2_with fail
          go_region
          go_wp2_with fail
          go_roundg (n - (j + 1))
          case measure => have := HI.out.1; omega
          case rel => exact ⟨j + 1, by go_num, by omega, b1, k0, k1, k2, k3, ⟨rfl, HI.out.2.1.drew, HNX.out⟩⟩
    · have hjn : j = n := by omega
      subst hjn
      have HR : Hid (res = -1) := HA.out (fun i hi => HI.out.2.2 i (by rw [HN.out]; exact hi) hi)
      clear HP HA HF
      go_wp2
      go_ret
      exact ⟨by rw [HR.out]; rfl, HI.out.2.1⟩

end Go.Proofs.YtjlcdpablnnplaaDoor

/-
  Layer 9: the reference's Key, once more (layer 8 has it beside what is shown, which is not wanted here).
-/
namespace Go.Proofs.YtjlcdpablnnplaaDoor
set_option maxRecDepth 100000
open Go.RowKit Flo

set_option maxHeartbeats 4000000 in
theorem refKey_any (K N : Int) (S : ByteArray) (O : Int) (w : World) (hN : U64 N) :
    Calls Tryd.prog 39 #[.agg #[.int .i64 K, .int .u64 N, .string S, .int .i64 O]] w fun e w' => e = .returned (.tuple #[.agg #[.int .i64 (yK K N), .int .u64 (yN K N), .string (yS K N S), .int .i64 (yO K N O)], .bool (kok K N)]) ∧ Below w.heap.size w w' := by
  have HN : Hid (∀ w, Calls Tryd.prog 40 #[.agg #[.int .i64 K, .int .u64 N, .string S, .int .i64 O]] w fun e w' => e = .returned (.agg #[.int .i64 (nK K), .int .u64 (nN K N), .string (nS K S), .int .i64 (nO K O)]) ∧ Below w.heap.size w w') := fun w => refNormal_any K N S O w hN
  have HKi : Hid (∀ w, Calls Tryd.prog 60 #[.int .u64 (nN K N)] w fun e w' => e = .returned (.int .i64 (kindZ (nN K N))) ∧ w' = w) := fun w => refKind_any _ w (nN_u64 hN)
  have HY : Hid (kok K N = false → yK K N = 0 ∧ yN K N = 0 ∧ yS K N S = ⟨#[]⟩ ∧ yO K N O = 0) := key_zero S O
  have HY2 : Hid (kok K N = true → yK K N = nK K ∧ yN K N = kN K N ∧ yS K N S = nS K S ∧ yO K N O = nO K O) := key_some S O
  go_enter Tryd.func39, Tryd.ntmps39
  go_upto_region 1 with fail
  go_cut [3] (fun t wx => t = .bool false ∧ wx.cell? ⟨w.heap.size, 0, none⟩ = some (.int .i64 (nK K)) ∧ wx.cell? ⟨w.heap.size, 1, none⟩ = some (.int .u64 (nN K N)) ∧ wx.cell? ⟨w.heap.size, 2, none⟩ = some (.string (nS K S)) ∧ wx.cell? ⟨w.heap.size, 3, none⟩ = some (.int .i64 (nO K O)) ∧
    wx.cell? ⟨w.heap.size + 1, 0, none⟩ = some (.int .i64 0) ∧ wx.cell? ⟨w.heap.size + 1, 1, none⟩ = some (.int .u64 0) ∧ wx.cell? ⟨w.heap.size + 1, 2, none⟩ = some (.string ⟨#[]⟩) ∧ wx.cell? ⟨w.heap.size + 1, 3, none⟩ = some (.int .i64 0) ∧ (∀ i, wx.frozen? ⟨w.heap.size, i, none⟩ = false) ∧ (∀ i, wx.frozen? ⟨w.heap.size + 1, i, none⟩ = false) ∧ w.heap.size + 1 < wx.heap.size ∧ Hid (Below w.heap.size w wx))
  case first =>
    go_wp2_with fail
    refine (HN.out _).mono ?_
    rintro e wn ⟨rfl, hb⟩
    obtain ⟨hc, hf⟩ := bcell hb
    have hsz := hb.size
    simp at hsz
    have a0 : wn.cell? ⟨w.heap.size, 0, none⟩ = some (.int .i64 K) := by rw [hc _ _ (by simp; try omega)]; simp
    have a1 : wn.cell? ⟨w.heap.size, 1, none⟩ = some (.int .u64 N) := by rw [hc _ _ (by simp; try omega)]; simp
    have a2 : wn.cell? ⟨w.heap.size, 2, none⟩ = some (.string S) := by rw [hc _ _ (by simp; try omega)]; simp
    have a3 : wn.cell? ⟨w.heap.size, 3, none⟩ = some (.int .i64 O) := by rw [hc _ _ (by simp; try omega)]; simp
    have b0 : wn.cell? ⟨w.heap.size + 1, 0, none⟩ = some (.int .i64 0) := by rw [hc _ _ (by simp; try omega)]; simp
    have b1 : wn.cell? ⟨w.heap.size + 1, 1, none⟩ = some (.int .u64 0) := by rw [hc _ _ (by simp; try omega)]; simp
    have b2 : wn.cell? ⟨w.heap.size + 1, 2, none⟩ = some (.string ⟨#[]⟩) := by rw [hc _ _ (by simp; try omega)]; simp
    have b3 : wn.cell? ⟨w.heap.size + 1, 3, none⟩ = some (.int .i64 0) := by rw [hc _ _ (by simp; try omega)]; simp
    have f0 : ∀ i, wn.frozen? ⟨w.heap.size, i, none⟩ = false := fun i => by rw [hf _ _ (by simp; try omega)]; simp
    have f1 : ∀ i, wn.frozen? ⟨w.heap.size + 1, i, none⟩ = false := fun i => by rw [hf _ _ (by simp; try omega)]; simp
    have hB : Below w.heap.size w wn := (((Below.refl _ _).alloc (Nat.le_refl _) _).alloc (by simp) _).trans (hb.mono (by simp; omega))
    have q1 := stored4 wn _ w.heap.size (.int .i64 (nK K)) (.int .u64 (nN K N)) (.string (nS K S)) (.int .i64 (nO K O)) _ _ _ _ a0 a1 a2 a3 rfl
    have hB1 := set4 (i0 := 0) (i1 := 1) (i2 := 2) (i3 := 3) hB (Nat.le_refl _) (.int .i64 (nK K)) (.int .u64 (nN K N)) (.string (nS K S)) (.int .i64 (nO K O))
    go_wp2_with fail
    go_meet
    exact ⟨rfl, q1.1.1, q1.1.2.1, q1.1.2.2.1, q1.1.2.2.2, (q1.2 _ _ (by omega)).trans b0, (q1.2 _ _ (by omega)).trans b1, (q1.2 _ _ (by omega)).trans b2, (q1.2 _ _ (by omega)).trans b3, fun i => by simp [f0], fun i => by simp [f1], by simp; omega, hB1⟩
  case rest =>
    obtain ⟨rfl, a0, a1, a2, a3, b0, b1, b2, b3, f0, f1, hz, HB⟩ := hcut
    have hz0 : w.heap.size < wc.heap.size := by omega
    by_cases h0 : nK K = 0
    · have hk : kok K N = false := by unfold kok; rw [h0]; rfl
      go_wp2
      obtain ⟨y1, y2, y3, y4⟩ := HY.out hk
      exact bodyPost_ret (v := .tuple #[.agg #[.int .i64 0, .int .u64 0, .string ⟨#[]⟩, .int .i64 0], .bool false]) (by simp [results, Tryd.results39, go_sem, b0, b1, b2, b3]) rfl ⟨by rw [y1, y2, y3, y4, hk], set4 HB.out (by omega) _ _ _ _⟩
    · have hb0 : (nK K == 0) = false := by simpa using h0
      by_cases h3 : nK K = 3
      · have hK3 : K = 3 := (nK_3 K).1 h3
        have hkn := kind_nan (nN K N)
        cases hk : kok K N
        · have hnan : nanB (nN K N) = true := by
            have h5 := hk
            rw [hK3, kok_3] at h5
            rw [hK3]
            show nanB (canonZ N) = true
            rw [nan_canon]; simpa using h5
          rw [hnan] at hkn
          have HYY := HY.out hk
          have HK : Hid (kok K N = false) := hk
          clear hnan hk HY HY2 hK3
          go_wp2_with fail
          refine (HKi.out _).mono ?_
          rintro e w' ⟨rfl, rfl⟩
          go_wp2
          obtain ⟨y1, y2, y3, y4⟩ := HYY
          exact bodyPost_ret (v := .tuple #[.agg #[.int .i64 0, .int .u64 0, .string ⟨#[]⟩, .int .i64 0], .bool false]) (by simp [results, Tryd.results39, go_sem, b0, b1, b2, b3]) rfl ⟨by rw [y1, y2, y3, y4, HK.out], set4 HB.out (by omega) _ _ _ _⟩
        · have hnan : nanB N = false := by
            have h5 := hk
            rw [hK3, kok_3] at h5
            simpa using h5
          have hnn : nN K N = N := by rw [hK3]; show canonZ N = N; unfold canonZ; rw [hnan]; rfl
          rw [hnn, hnan] at hkn
          have HYY := HY2.out hk
          have HK : Hid (kok K N = true) := hk
          have HkN : Hid (kN K N = if mag N = 0 then 0 else N) := by show _ = _; unfold kN; rw [hnn]
          rw [hnn] at a1 HKi
          obtain ⟨u1, u2⟩ := hN
          by_cases c63 : N = 9223372036854775808
          · have HM : Hid (kN K N = 0) := by show _ = _; rw [HkN.out, if_pos (by rw [c63]; decide)]
            subst c63
            clear hnan hk HY HY2 hK3 hnn HkN u1 u2
            go_wp2_with fail
            refine (HKi.out _).mono ?_
            rintro e w' ⟨rfl, rfl⟩
            go_wp2
            obtain ⟨y1, y2, y3, y4⟩ := HYY
            exact bodyPost_ret (v := .tuple #[.agg #[.int .i64 3, .int .u64 0, .string (nS K S), .int .i64 (nO K O)], .bool true]) (by simp [results, Tryd.results39, go_sem, b0, b1, b2, b3]) rfl ⟨by rw [y1, h3, y2, y3, y4, HM.out, HK.out], set4 (HB.out.setCell (p := ⟨w.heap.size, 1, none⟩) (Nat.le_refl _) _) (by omega) _ _ _ _⟩
          · have HM : Hid (kN K N = N) := by
              show _ = _
              rw [HkN.out]
              split
              · next z => unfold mag at z; split at z <;> omega
              · rfl
            have cb : (N == 9223372036854775808) = false := by simpa using c63
            clear hnan hk HY HY2 hK3 hnn HkN
            go_wp2_with fail
            refine (HKi.out _).mono ?_
            rintro e w' ⟨rfl, rfl⟩
            go_wp2
            obtain ⟨y1, y2, y3, y4⟩ := HYY
            exact bodyPost_ret (v := .tuple #[.agg #[.int .i64 3, .int .u64 N, .string (nS K S), .int .i64 (nO K O)], .bool true]) (by simp [results, Tryd.results39, go_sem, b0, b1, b2, b3]) rfl ⟨by rw [y1, h3, y2, y3, y4, HM.out, HK.out], set4 HB.out (by omega) _ _ _ _⟩
      · have h3b : (nK K == 3) = false := by simpa using h3
        have hK3 : K ≠ 3 := fun e => h3 ((nK_3 K).2 e)
        have hk : kok K N = true := (kok_plain N hK3).2 h0
        have HYY := HY2.out hk
        have HK : Hid (kok K N = true) := hk
        have HM : Hid (kN K N = nN K N) := by
          have := kN_plain N hK3
          rw [this.1, this.2]; exact rfl
        clear hk HY HY2
        go_wp2
        obtain ⟨y1, y2, y3, y4⟩ := HYY
        exact bodyPost_ret (v := .tuple #[.agg #[.int .i64 (nK K), .int .u64 (nN K N), .string (nS K S), .int .i64 (nO K O)], .bool true]) (by simp [results, Tryd.results39, go_sem, b0, b1, b2, b3]) rfl ⟨by rw [y1, y2, y3, y4, HM.out, HK.out], set4 HB.out (by omega) _ _ _ _⟩

end Go.Proofs.YtjlcdpablnnplaaDoor

/-
  Layer 9: the reference's rows copied, and written to.
-/
namespace Go.Proofs.YtjlcdpablnnplaaDoor
set_option maxRecDepth 100000
open Go.RowKit Flo

theorem infoObj : (Tryd.prog.info? 63).map (fun i => (i.zero, i.size, i.bytes)) = some (some (.agg #[.int .i64 0, .slice none 0 0, .slice none 0 0, .int .i64 0, .int .u64 0, .string ⟨#[]⟩, .int .i64 0, .int .i64 0, .int .i64 0, .slice none 0 0]), 10, 136) := by kernel_rfl
theorem infoVal : (Tryd.prog.info? 35).map (fun i => (i.zero, i.size, i.bytes)) = some (some (.agg #[.int .i64 0, .int .u64 0, .string ⟨#[]⟩, .int .i64 0]), 4, 40) := by kernel_rfl

/-! ### a store leaves all but the heap -/
theorem heap_setc {w w' : World} (h : w.heap = w'.heap) (a : Addr) (v : Value) : (w.setCell a v).heap = (w'.setCell a v).heap := by
  unfold World.setCell
  simp only [h]
theorem os_setc (w : World) (a : Addr) (v : Value) : (w.setCell a v).os = w.os := rfl
theorem tape_setc (w : World) (a : Addr) (v : Value) : (w.setCell a v).tape = w.tape := rfl
theorem output_setc (w : World) (a : Addr) (v : Value) : (w.setCell a v).output = w.output := rfl
theorem os_drewc (w : World) : w.drew.os = w.os := rfl
theorem tape_drewc (w : World) : w.drew.tape = w.tape := rfl
theorem output_drewc (w : World) : w.drew.output = w.output := rfl

/-! ### cells of a row set -/
def setsL (xs : List Value) (o : Nat) : List (Nat × Value) → List Value
  | [] => xs
  | p :: l => setsL (xs.set (o + p.1) p.2) o l
def stores (w : World) (g o : Nat) : List (Nat × Value) → World
  | [] => w
  | p :: l => stores (w.setCell ⟨g, o + p.1, none⟩ p.2) g o l
theorem flat_set : ∀ (css : List (List Value)) (W i j : Nat) (cs : List Value) (u : Value), (∀ c ∈ css, c.length = W) → css[i]? = some cs → j < W → (css.set i (cs.set j u)).flatten = css.flatten.set (i * W + j) u
  | [], W, i, j, cs, u, _, h, _ => by simp at h
  | c :: css, W, 0, j, cs, u, hl, h, hj => by
    simp only [List.getElem?_cons_zero, Option.some.injEq] at h
    subst h
    have hc := hl c List.mem_cons_self
    rw [List.set_cons_zero, List.flatten_cons, List.flatten_cons, Nat.zero_mul, Nat.zero_add, List.set_append_left _ _ (by omega)]
  | c :: css, W, i + 1, j, cs, u, hl, h, hj => by
    rw [List.getElem?_cons_succ] at h
    have hc := hl c List.mem_cons_self
    have := flat_set css W i j cs u (fun x hx => hl x (List.mem_cons_of_mem _ hx)) h hj
    rw [List.set_cons_succ, List.flatten_cons, List.flatten_cons, this, List.set_append_right _ _ (by rw [hc, Nat.succ_mul]; omega), hc, show (i + 1) * W + j - W = i * W + j by rw [Nat.succ_mul]; omega]
theorem flat_sets (W i : Nat) : ∀ (us : List (Nat × Value)) (css : List (List Value)) (cs : List Value), (∀ c ∈ css, c.length = W) → css[i]? = some cs → (∀ p ∈ us, p.1 < W) → (css.set i (setsL cs 0 us)).flatten = setsL css.flatten (i * W) us
  | [], css, cs, hl, h, _ => by
    show (css.set i cs).flatten = css.flatten
    rw [set_same css i cs h]
  | p :: us, css, cs, hl, h, hu => by
    have hp := hu p List.mem_cons_self
    have hi : i < css.length := by
      rcases Nat.lt_or_ge i css.length with c | c
      · exact c
      · rw [List.getElem?_eq_none c] at h; cases h
    have h1 := flat_set css W i p.1 cs p.2 hl h hp
    have h2 := flat_sets W i us (css.set i (cs.set p.1 p.2)) (cs.set p.1 p.2) (fun c hc => by
      rcases List.mem_or_eq_of_mem_set hc with q | q
      · exact hl c q
      · rw [q, List.length_set]; exact hl cs (List.mem_of_getElem? h)) (by rw [List.getElem?_set_self hi]) (fun q hq => hu q (List.mem_cons_of_mem _ hq))
    rw [List.set_set, h1] at h2
    show (css.set i (setsL (cs.set (0 + p.1) p.2) 0 us)).flatten = setsL (css.flatten.set (i * W + p.1) p.2) (i * W) us
    rw [Nat.zero_add]
    exact h2
theorem owns_stores {base e size n cap g o : Nat} : ∀ (us : List (Nat × Value)) {w : World} {xs : List Value}, w.ownsRow base e size (.slice (some ⟨g, 0, none⟩) n cap) n xs → (stores w g o us).ownsRow base e size (.slice (some ⟨g, 0, none⟩) n cap) n (setsL xs o us)
  | [], _, _, h => h
  | p :: us, _, _, h => owns_stores us (h.stored (o + p.1) p.2).1
theorem wx_stores {g o : Nat} : ∀ (us : List (Nat × Value)) (w : World), Wx (fun k => k = g) w (stores w g o us)
  | [], w => Wx.refl _ w
  | p :: us, w => Wx.trans (X := fun k => k = g) (Wx.set (X := fun k => k = g) (k := g) w (o + p.1) p.2 rfl) (wx_stores us _) (fun _ hk => Or.inl hk)
theorem size_stores {g o : Nat} : ∀ (us : List (Nat × Value)) (w : World), (stores w g o us).heap.size = w.heap.size
  | [], _ => rfl
  | _ :: us, _ => (size_stores us _).trans (World.size_setCell _ _ _)
theorem owns_free {w : World} {base e size n cap g : Nat} {xs : List Value} (h : w.ownsRow base e size (.slice (some ⟨g, 0, none⟩) n cap) n xs) (o : Nat) : w.frozen? ⟨g, o, none⟩ = false := by
  rcases h.2 with ⟨h', _⟩ | ⟨g', cap', cur, h', hb, hg, _⟩
  · simp at h'
  · simp only [Value.slice.injEq, Option.some.injEq, Addr.mk.injEq, and_true, true_and] at h'
    obtain ⟨rfl, rfl⟩ := h'
    simp [World.frozen?, hg]
theorem rC_flat (rs : List Rr) : rC rs = (rs.map Rr.cells).flatten := by unfold rC; rw [List.flatMap_def]
theorem vC_flat (l : List V4) : vC l = (l.map V4.cells).flatten := by unfold vC; rw [List.flatMap_def]
/-- Cells of one object of a row. -/
theorem rC_sets (rs : List Rr) (i : Nat) (r r' : Rr) (us : List (Nat × Value)) (h : rs[i]? = some r) (hu : ∀ p ∈ us, p.1 < 10) (hr : r'.cells = setsL r.cells 0 us) : setsL (rC rs) (i * 10) us = rC (rs.set i r') := by
  rw [rC_flat, rC_flat, List.map_set, hr]
  refine (flat_sets 10 i us _ r.cells (fun c hc => ?_) (by rw [List.getElem?_map, h]; rfl) hu).symm
  obtain ⟨x, _, rfl⟩ := List.mem_map.1 hc
  rfl
theorem vC_sets (l : List V4) (i : Nat) (v v' : V4) (us : List (Nat × Value)) (h : l[i]? = some v) (hu : ∀ p ∈ us, p.1 < 4) (hr : v'.cells = setsL v.cells 0 us) : setsL (vC l) (i * 4) us = vC (l.set i v') := by
  rw [vC_flat, vC_flat, List.map_set, hr]
  refine (flat_sets 4 i us _ v.cells (fun c hc => ?_) (by rw [List.getElem?_map, h]; rfl) hu).symm
  obtain ⟨x, _, rfl⟩ := List.mem_map.1 hc
  rfl

/-! ### the reference's heap behind a call -/
def RH (w : World) (db lim : Nat) (L : List Om) (Q : Nat → Prop) : Prop := ∃ R rs, Rv w db lim R rs Q ∧ rs.map Rr.om = L
def RP (w : World) (db lim : Nat) (L : List Om) (Q : Nat → Prop) (w' : World) : Prop := ∃ Q', RH w' db lim L Q' ∧ Wx (fun k => k = db) w w' ∧ ∀ k, Q' k → Q k ∨ w.heap.size ≤ k
theorem Rv.rp {w w' : World} {db lim : Nat} {R : Value} {rs : List Rr} {Q : Nat → Prop} (h : Rv w db lim R rs Q) (k : Below w.heap.size w w') : RP w db lim (rs.map Rr.om) Q w' :=
  ⟨Q, ⟨R, rs, h.below k, rfl⟩, Wx.of_below _ k, fun _ c => Or.inl c⟩
theorem Rv.lay {w w' : World} {db lim : Nat} {R R' : Value} {rs rs' : List Rr} {Q : Nat → Prop} (h : Rv w db lim R rs Q) (k : Wx (fun j => j = db) w w') (c0 : w'.cell? ⟨db, 0, none⟩ = some R') (c1 : w'.cell? ⟨db, 1, none⟩ = some (.int .i64 lim)) (hf : ∀ o, w'.frozen? ⟨db, o, none⟩ = false)
    (row : w'.ownsRow w.heap.size 63 10 R' rs'.length (rC rs')) (ob : ∀ (i : Nat) r, rs'[i]? = some r → (∃ j : Nat, rs[j]? = some r) ∨ Rrv w' (fun g => (Q g ∧ g ≠ db) ∨ (w.heap.size ≤ g ∧ g < w'.heap.size)) r) (hu : usedR rs' ≤ lim) : RP w db lim (rs'.map Rr.om) Q w' := by
  have hlt := h.lt db h.qd
  refine ⟨Zn Q w.heap.size w'.heap.size, ⟨R', rs', ⟨c0, c1, hf, ⟨row.1, ?_⟩, fun i r hr => ?_, fun j hj => ?_, Or.inl h.qd, fun g hg => ?_, h.hl, hu⟩, rfl⟩, k, fun j hj => ?_⟩
  · rcases row.2 with q | ⟨g, cap, cur, q1, _, q2⟩
    · exact Or.inl q
    · exact Or.inr ⟨g, cap, cur, q1, Nat.zero_le _, q2⟩
  · rcases ob i r hr with ⟨j, hj⟩ | q
    · exact ((h.ob j r hj).wx k (fun g hg => hg.2)).more (fun g hg => ⟨Or.inl hg.1, hg.2⟩)
    · refine q.more (fun g hg => ?_)
      rcases hg with c | c
      · exact ⟨Or.inl c.1, c.2⟩
      · exact ⟨Or.inr c, by omega⟩
  · rcases hj with c | c
    · exact Nat.lt_of_lt_of_le (h.lt j c) k.size
    · exact c.2
  · have := World.ownsRow.lt row g hg
    exact ⟨Or.inr this, by omega⟩
  · rcases hj with c | c
    · exact Or.inl c
    · exact Or.inr c.1

/-- What is known behind the copy of the row of objects, made in a world of its own memory. -/
structure Cpd (w w2 : World) (rs : List Rr) (a : Option Addr) (c : Nat) : Prop where
  low : Below w.heap.size w w2
  row : w2.ownsRow w.heap.size 63 10 (.slice a rs.length c) rs.length (rC rs)
theorem cpd_of {w w1 w2 : World} {rs : List Rr} {a : Option Addr} {c : Nat} (k : Below w.heap.size w w1)
    (hown : w2.ownsRow w.heap.size 63 10 (.slice a rs.length c) rs.length (rC rs)) (hg : (w1.alloc (.cells #[] 63)).grownBy w2 (some w1.heap.size)) : Cpd w w2 rs a c := by
  have hs := k.size
  refine ⟨⟨?_, ?_, ?_, ?_, fun j hj => ?_⟩, hown⟩
  · rw [hg.os]; exact k.os
  · rw [hg.tape]; exact k.tape
  · rw [hg.output]; exact k.output
  · have := hg.size; simp at this; omega
  · exact (hg.block j (by simp; omega) (fun e => by injection e with e; omega)).trans ((k.alloc hs (.cells #[] 63)).block j hj)
/-- Behind the copy, the row laid into the heap, and cells of one object written. -/
theorem Cpd.lay {w w2 w4 : World} {db lim i g c : Nat} {R : Value} {rs : List Rr} {Q : Nat → Prop} {r r' : Rr} {us : List (Nat × Value)} (h : Rv w db lim R rs Q) (k : Cpd w w2 rs (some ⟨g, 0, none⟩) c) (hi : rs[i]? = some r) (hu : ∀ p ∈ us, p.1 < 10) (hr : r'.cells = setsL r.cells 0 us)
    (hw : w4.heap = (stores (w2.setCell ⟨db, 0, none⟩ (.slice (some ⟨g, 0, none⟩) rs.length c)) g (i * 10) us).heap) (ho : w4.os = w2.os) (ht : w4.tape = w2.tape) (hp : w4.output = w2.output)
    (hv : Rrv w2 (fun g => (Q g ∧ g ≠ db) ∨ (w.heap.size ≤ g ∧ g < w2.heap.size)) r') (hg' : ∀ x, r'.kv.ownBlock = some x ∨ r'.vv.ownBlock = some x ∨ r'.sv.ownBlock = some x → x ≠ g) (hwt : usedR (rs.set i r') ≤ lim) : RP w db lim ((rs.map Rr.om).set i r'.om) Q w4 := by
  have hdb := h.lt db h.qd
  have hgl := World.ownsRow.lt k.row g rfl
  have hgd : g ≠ db := by omega
  obtain ⟨W3, hW3⟩ : ∃ W3, W3 = w2.setCell ⟨db, 0, none⟩ (.slice (some ⟨g, 0, none⟩) rs.length c) := ⟨_, rfl⟩
  obtain ⟨W4, hW4⟩ : ∃ W4, W4 = stores W3 g (i * 10) us := ⟨_, rfl⟩
  rw [← hW3, ← hW4] at hw
  have x3 : Wx (fun j => j = db) w2 W3 := by rw [hW3]; exact Wx.set w2 0 _ rfl
  have x4 : Wx (fun j => j = g) W3 W4 := by rw [hW4]; exact wx_stores us W3
  have x5 : Wx (fun _ => False) W4 w4 := ⟨by rw [ho, x4.os, x3.os], by rw [ht, x4.tape, x3.tape], by rw [hp, x4.output, x3.output], by rw [hw]; exact Nat.le_refl _, fun j _ _ => by rw [hw]⟩
  have hs3 : W3.heap.size = w2.heap.size := by rw [hW3]; exact World.size_setCell _ _ _
  have hs4 : W4.heap.size = W3.heap.size := by rw [hW4]; exact size_stores us W3
  have hs5 : w4.heap.size = w2.heap.size := by rw [hw, hs4, hs3]
  have hall : Wx (fun j => j = db) w w4 := ((((Wx.of_below _ k.low).trans x3 (fun j hj => Or.inl hj)).trans x4 (fun j hj => Or.inr (by omega))).trans x5 (fun j hj => hj.elim))
  have row2 : w2.ownsRow w.heap.size 63 10 (.slice (some ⟨g, 0, none⟩) rs.length c) rs.length (rC rs) := k.row
  have hoe : ∀ j, (Value.slice (some ⟨g, 0, none⟩) rs.length c).ownBlock = some j → g = j := fun j hj => by simpa [Value.ownBlock] using hj
  have row3 : W3.ownsRow w.heap.size 63 10 (.slice (some ⟨g, 0, none⟩) rs.length c) rs.length (rC rs) := rowStay row2 (fun j hj => x3.block j (World.ownsRow.lt row2 j hj).2 (fun q => hgd ((hoe j hj).trans q)))
  have row4 : W4.ownsRow w.heap.size 63 10 (.slice (some ⟨g, 0, none⟩) rs.length c) rs.length (rC (rs.set i r')) := by
    have := owns_stores (o := i * 10) us row3
    rw [rC_sets rs i r r' us hi hu hr, ← hW4] at this
    exact this
  have row5 : w4.ownsRow w.heap.size 63 10 (.slice (some ⟨g, 0, none⟩) (rs.set i r').length c) (rs.set i r').length (rC (rs.set i r')) := by
    rw [List.length_set]
    exact rowStay row4 (fun j hj => by rw [hw])
  have c0 : W3.cell? ⟨db, 0, none⟩ = some (.slice (some ⟨g, 0, none⟩) rs.length c) := by
    rw [hW3]
    exact World.cell?_setCell_same _ _ _ ((k.low.cell hdb).trans h.c0)
  have hc : ∀ o, w4.cell? ⟨db, o, none⟩ = W3.cell? ⟨db, o, none⟩ := fun o => by
    have e1 : w4.heap[db]? = W3.heap[db]? := by rw [hw]; exact x4.block db (by omega) (by omega)
    exact World.cell?_of_block (w := W3) (a := ⟨db, o, none⟩) e1
  have hmap : (rs.map Rr.om).set i r'.om = (rs.set i r').map Rr.om := List.map_set.symm
  rw [hmap]
  refine h.lay hall ?_ ?_ (fun o => ?_) row5 (fun j x hx => ?_) hwt
  · rw [hc, c0, List.length_set]
  · rw [hc, hW3, World.cell?_setCell_other _ _ _ _ (by simp)]
    exact (k.low.cell hdb).trans h.c1
  · have e1 : w4.heap[db]? = W3.heap[db]? := by rw [hw]; exact x4.block db (by omega) (by omega)
    rw [World.frozen?_of_block (w := W3) (a := ⟨db, o, none⟩) e1, hW3, World.frozen?_setCell]
    exact (k.low.frozen hdb).trans (h.free o)
  · rw [List.getElem?_set] at hx
    by_cases e : i = j
    · rw [if_pos e] at hx
      split at hx
      · injection hx with hx
        subst hx
        right
        have hx2 : Wx (fun j => j = db ∨ j = g) w2 w4 := ((x3.more (fun j hj => Or.inl (Or.inl hj))).trans x4 (fun j hj => Or.inl (Or.inr hj))).trans x5 (fun j hj => hj.elim)
        refine Rrv.more (Q := fun x => ((Q x ∧ x ≠ db) ∨ (w.heap.size ≤ x ∧ x < w2.heap.size)) ∧ x ≠ g) ?_ (fun x hx => by
          rcases hx.1 with q | q
          · exact Or.inl q
          · exact Or.inr ⟨q.1, by omega⟩)
        refine Rrv.wx (X := fun j => j = db ∨ j = g) ⟨hv.k, hv.v, hv.s, fun x hx => ⟨hv.own x hx, hg' x hx⟩, hv.len⟩ hx2 (fun x hx hc => ?_)
        rcases hc with q | q
        · rcases hx.1 with t | t
          · exact t.2 q
          · omega
        · exact hx.2 q
      · cases hx
    · rw [if_neg e] at hx
      exact Or.inl ⟨j, hx⟩

theorem rv_src {w w' : World} {db lim : Nat} {R : Value} {rs : List Rr} {Q : Nat → Prop} (h : Rv w db lim R rs Q) (k : Below w.heap.size w w') : Src w' 10 R rs.length (rC rs) :=
  Src.of_owns (h.below k).row (rC_one rs (fun r hr => by
    obtain ⟨i, hi⟩ := List.mem_iff_getElem?.1 hr
    have := h.ob i r hi
    exact ⟨this.k.one, this.v.one, this.s.one⟩))

end Go.Proofs.YtjlcdpablnnplaaDoor
