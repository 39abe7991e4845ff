/-
  HpLand, HpLand2, HpLand3, HpMake, HpInv2, HpTwo
-/
import Derived.Test.YtjlcdpablnnplaaDoorZ29

/-
  Layer 9: the landed heap's Table, SetMeta, Mark, by lists.
-/
namespace Go.Proofs.YtjlcdpablnnplaaDoor
set_option maxRecDepth 100000
open Go.RowKit Flo

theorem ltable_any {w : World} {hb lim : Nat} {L : List Om} {Z : Nat → Prop} (h : LH w hb lim L Z) :
    Calls Tryd.prog 11 #[.pointer (some ⟨hb, 0, none⟩)] w fun e w' => e = .returned (.tuple #[.int .i64 (tableM lim L).1.1, .int .i64 (tableM lim L).1.2]) ∧ LP w hb lim (tableM lim L).2 Z w' := by
  obtain ⟨used, R, os, hv, rfl⟩ := h
  have hun : used = usedM (os.map Ob.om) := by rw [used_om]; exact hv.sum
  by_cases c : used < lim
  · have hm : tableM lim (os.map Ob.om) = ((((os.length + 1 : Nat) : Int), 0), os.map Ob.om ++ [⟨5, 0, 0, V0, [], [], []⟩]) := by unfold tableM; rw [← hun, if_pos c, List.length_map]
    rw [hm]
    refine (table_hv hv c).mono ?_
    rintro e w' ⟨rfl, R', Z', h1, h2, h3⟩
    exact ⟨rfl, Z', ⟨_, R', _, h1, by rw [List.map_append]; rfl⟩, h2, h3⟩
  · have hm : tableM lim (os.map Ob.om) = ((0, 2), os.map Ob.om) := by unfold tableM; rw [← hun, if_neg c]
    rw [hm]
    refine (table_full hv (by omega)).mono ?_
    rintro e w' ⟨rfl, hb1⟩
    exact ⟨rfl, LH.below ⟨used, R, os, hv, rfl⟩ hb1⟩

theorem lmeta_any {w : World} {hb lim : Nat} {L : List Om} {Z : Nat → Prop} (h : LH w hb lim L Z) (o : Int) (m : V4) (hN : U64 m.N) :
    Calls Tryd.prog 18 #[.pointer (some ⟨hb, 0, none⟩), .int .i64 o, .agg #[.int .i64 m.K, .int .u64 m.N, .string m.S, .int .i64 m.O]] w fun e w' => e = .returned (.int .i64 (metaM L o m).1) ∧ LP w hb lim (metaM L o m).2 Z w' := by
  obtain ⟨used, R, os, hv, rfl⟩ := h
  cases ht : tabM (os.map Ob.om) o with
  | none =>
    have hm : metaM (os.map Ob.om) o m = (5, os.map Ob.om) := by unfold metaM; rw [ht]
    rw [hm]
    refine (SetMeta_none hv o ((tabM_none hv).1 ht) m.K m.N m.S m.O).mono ?_
    rintro e w' ⟨rfl, hb1⟩
    exact ⟨rfl, LH.below ⟨used, R, os, hv, rfl⟩ hb1⟩
  | some y =>
    obtain ⟨i, tb, x, ho, hoi, hi, htb, rfl⟩ := tabM_some hv ht
    obtain ⟨k1, k2⟩ := SetMeta_of hv hi htb o ho m.K m.N m.S m.O hN (nK m.K) (nN m.K m.N) (nS m.K m.S) (nO m.K m.O) rfl rfl rfl rfl
    by_cases c : nK m.K ≠ 0 ∧ (nK m.K ≠ 5 ∨ tabM (os.map Ob.om) (nO m.K m.O) = none)
    · have hm : metaM (os.map Ob.om) o m = (1, os.map Ob.om) := by unfold metaM; rw [ht]; simp only; rw [if_pos c]
      rw [hm]
      refine (k1 c.1 (c.2.imp id (tabM_none hv).1)).mono ?_
      rintro e w' ⟨rfl, hb1⟩
      exact ⟨rfl, LH.below ⟨used, R, os, hv, rfl⟩ hb1⟩
    · have hm : metaM (os.map Ob.om) o m = (0, (os.map Ob.om).set i { x.om with M := norV m }) := by unfold metaM; rw [ht]; simp only; rw [if_neg c, hoi]
      rw [hm]
      refine (k2 ?_).mono ?_
      · by_cases d : nK m.K = 0
        · exact Or.inl d
        · right
          have h2 : ¬ (nK m.K ≠ 5 ∨ tabM (os.map Ob.om) (nO m.K m.O) = none) := fun q => c ⟨d, q⟩
          refine ⟨Decidable.byContradiction (fun q => h2 (Or.inl q)), fun q => h2 (Or.inr ((tabM_none hv).2 q))⟩
      · rintro e w' ⟨rfl, h1, h2⟩
        exact ⟨rfl, Z, ⟨used, R, _, h1, by rw [om_set]; rfl⟩, h2, fun _ c => Or.inl c⟩

theorem obC_flat (os : List Ob) : obC os = (os.map Ob.cells).flatten := by unfold obC; rw [List.flatMap_def]
/-- An object that is no table has another number. -/
theorem Hv.mark {w : World} {hb lim used i g cap : Nat} {R : Value} {os : List Ob} {Z : Nat → Prop} {x : Ob} (h : Hv w hb lim used R os Z) (hi : os[i]? = some x) (ht : x.tb = none) (hR : R = .slice (some ⟨g, 0, none⟩) os.length cap) (a : Int) :
    Hv (w.setCell ⟨g, i * 5 + 1, none⟩ (.int .i64 a)) hb lim used R (os.set i { x with a := a }) Z ∧ Wx Z w (w.setCell ⟨g, i * 5 + 1, none⟩ (.int .i64 a)) := by
  have hgb : R.ownBlock = some g := by rw [hR]; rfl
  have hgz := h.zr g hgb
  have k : Wx (fun j => j = g) w (w.setCell ⟨g, i * 5 + 1, none⟩ (.int .i64 a)) := Wx.set w _ _ rfl
  have kz : Wx Z w (w.setCell ⟨g, i * 5 + 1, none⟩ (.int .i64 a)) := k.more (fun j hj => Or.inl (by rw [hj]; exact hgz.1))
  have hng : ¬ hb = g := fun e => hgz.2 e.symm
  have hn1 : ¬ 1 = g := fun e => h.no1 (e ▸ hgz.1)
  have hil : i < os.length := by
    rcases Nat.lt_or_ge i os.length with c | c
    · exact c
    · rw [List.getElem?_eq_none c] at hi; cases hi
  have hgs : ∀ (j : Nat) p, (os.set i { x with a := a })[j]? = some p → (j = i ∧ p = { x with a := a }) ∨ (j ≠ i ∧ os[j]? = some p) := by
    intro j p hp
    rw [List.getElem?_set] at hp
    by_cases c : i = j
    · rw [if_pos c] at hp
      rw [if_pos (by omega)] at hp
      exact Or.inl ⟨c.symm, (Option.some.inj hp).symm⟩
    · rw [if_neg c] at hp
      exact Or.inr ⟨fun q => c q.symm, hp⟩
  have hptb : ∀ (j : Nat) p, os[j]? = some p → p.tb ≠ none → ∃ q, (os.set i { x with a := a })[j]? = some q ∧ q.tb ≠ none := by
    intro j p hp hne
    by_cases c : i = j
    · subst c
      rw [hi] at hp
      injection hp with hp
      subst hp
      exact absurd ht hne
    · exact ⟨p, by rw [List.getElem?_set, if_neg c]; exact hp, hne⟩
  refine ⟨⟨k.cell hng h.c0, k.cell hng h.c1, k.cell hng h.c2, fun o => (k.frozen (h.lt hb h.zh) hng).trans (h.hfree o), ?_, h.hl, h.hu, ?_, fun j p hp => ?_, fun j p hp => ?_, fun j hj => Nat.lt_of_lt_of_le (h.lt j hj) k.size, h.no1, h.zh, h.zr, fun j p hp => ?_, fun j l p q hp hq hjl => ?_, h.db.wx k hn1⟩, kz⟩
  · have hrow := h.row
    rw [hR] at hrow ⊢
    have h2 := (hrow.stored (i * 5 + 1) (.int .i64 a)).1
    rw [List.length_set]
    have e : obC (os.set i { x with a := a }) = (obC os).set (i * 5 + 1) (.int .i64 a) := by
      rw [obC_flat, obC_flat, List.map_set]
      have e2 : ({ x with a := a } : Ob).cells = x.cells.set 1 (.int .i64 a) := rfl
      rw [e2]
      exact flat_set (os.map Ob.cells) 5 i 1 x.cells (.int .i64 a) (fun c hc => by obtain ⟨y, _, rfl⟩ := List.mem_map.1 hc; rfl) (by rw [List.getElem?_map, hi]; rfl) (by omega)
    rw [e]
    exact h2
  · have := sum_set os i x { x with a := a } hi
    have hw : ({ x with a := a } : Ob).wt = x.wt := rfl
    have := h.sum
    omega
  · rcases hgs j p hp with ⟨_, rfl⟩ | ⟨_, hp⟩
    · have hv := (h.ob i x hi).wx k (fun y hy e => (h.zx i x hi y hy).2.2 (by rw [e]; exact hgb)) hn1
      refine ⟨fun tb e => ?_, fun _ => ?_⟩
      · have e2 : x.tb = some tb := e
        rw [ht] at e2; cases e2
      · exact hv.oth ht
    · exact (h.ob j p hp).wx k (fun y hy e => (h.zx j p hp y hy).2.2 (by rw [e]; exact hgb)) hn1
  · rcases hgs j p hp with ⟨_, rfl⟩ | ⟨_, hp⟩
    · rcases h.mt i x hi with c | ⟨c1, c2, q, c3, c4⟩
      · exact Or.inl c
      · exact Or.inr ⟨c1, c2, hptb _ q c3 c4⟩
    · rcases h.mt j p hp with c | ⟨c1, c2, q, c3, c4⟩
      · exact Or.inl c
      · exact Or.inr ⟨c1, c2, hptb _ q c3 c4⟩
  · rcases hgs j p hp with ⟨_, rfl⟩ | ⟨_, hp⟩
    · exact h.zx i x hi
    · exact h.zx j p hp
  · rcases hgs j p hp with ⟨e1, rfl⟩ | ⟨e1, hp1⟩
    · rcases hgs l q hq with ⟨e2, _⟩ | ⟨e2, hq1⟩
      · omega
      · exact h.xx i l x q hi hq1 (by omega)
    · rcases hgs l q hq with ⟨e2, rfl⟩ | ⟨e2, hq1⟩
      · exact h.xx j i p x hp1 hi (by omega)
      · exact h.xx j l p q hp1 hq1 hjl

set_option maxHeartbeats 1000000 in
theorem lmark_any {w : World} {hb lim : Nat} {L : List Om} {Z : Nat → Prop} (h : LH w hb lim L Z) (o a : Int) :
    Calls Tryd.prog 26 #[.pointer (some ⟨hb, 0, none⟩), .int .i64 o, .int .i64 a] w fun e w' => e = .returned (.int .i64 (markM L o a).1) ∧ LP w hb lim (markM L o a).2 Z w' := by
  obtain ⟨used, R, os, hv, rfl⟩ := h
  have hlen : os.length ≤ 1099511627776 := by have := sum_len os; have := hv.sum; have := hv.hu; have := hv.hl; omega
  have HLP : Hid (LP w hb lim (os.map Ob.om) Z w) := LH.below ⟨used, R, os, hv, rfl⟩ (Below.refl _ _)
  by_cases c : 1 ≤ o ∧ o ≤ os.length
  · obtain ⟨i, hoi⟩ : ∃ i : Nat, o = (i : Int) + 1 := ⟨(o - 1).toNat, by omega⟩
    have hil : i < os.length := by omega
    obtain ⟨x, hx⟩ : ∃ x, os[i]? = some x := ⟨os[i], List.getElem?_eq_getElem hil⟩
    obtain ⟨g, cap, hR⟩ : ∃ g cap, R = .slice (some ⟨g, 0, none⟩) os.length cap := by
      rcases rowForm hv.row with ⟨e, e0⟩ | ⟨g, cap, e, _⟩
      · omega
      · exact ⟨g, cap, e⟩
    have hat : atM (os.map Ob.om) o = some x.om := by rw [atM_map, if_pos c, show (o - 1).toNat = i by omega, hx]; rfl
    have HF := hide_p (hfind_any hb g os.length cap (some ⟨g, 0, none⟩) o w (by rw [hv.c2, hR]) (fun _ => rfl) hlen)
    rw [show objAt g os.length o = some ⟨g, i * 5, none⟩ by unfold objAt; rw [if_pos c]; congr 2; omega] at HF
    have hrow := hv.row
    rw [hR] at hrow
    have hc : ∀ j, j < 5 → w.cell? ⟨g, i * 5 + j, none⟩ = x.cells[j]? := fun j hj => by rw [hrow.cellAt (i * 5 + j) (by omega), obC_at os i x hx j hj]
    have c4 : w.cell? ⟨g, i * 5 + 4, none⟩ = some (.pointer x.ptr) := hc 4 (by omega)
    have c1 : w.cell? ⟨g, i * 5 + 1, none⟩ = some (.int .i64 x.a) := hc 1 (by omega)
    have hfr : w.frozen? ⟨g, i * 5 + 1, none⟩ = false := owns_free hrow _
    cases htb : x.tb with
    | some tb =>
      have hk5 : x.om.k = 5 := ((hv.ob i x hx).tab tb htb).1.1
      have hm : markM (os.map Ob.om) o a = (5, os.map Ob.om) := by unfold markM; rw [hat]; simp only; rw [if_pos hk5]
      rw [hm]
      rw [show x.ptr = some ⟨tb, 0, none⟩ by unfold Ob.ptr; rw [htb]; rfl] at c4
      clear hv hx hat hR hrow hc hm c hk5 htb hoi c1 hfr
      go_enter Tryd.func26, Tryd.ntmps26
      go_wp2_with fail
      refine HF.out.mono ?_
      rintro e w' ⟨rfl, rfl⟩
      clear HF
      go_wp2
      go_ret
      exact ⟨rfl, HLP.out⟩
    | none =>
      have hk5 : ¬ x.om.k = 5 := ((hv.ob i x hx).oth htb).1.2
      have hm : markM (os.map Ob.om) o a = (0, (os.map Ob.om).set i { x.om with a := a }) := by unfold markM; rw [hat]; simp only; rw [if_neg hk5, show (o - 1).toNat = i by omega]
      rw [hm]
      rw [show x.ptr = none by unfold Ob.ptr; rw [htb]; rfl] at c4
      obtain ⟨k1, k2⟩ := hv.mark hx htb hR a
      have HQ : Hid (LP w hb lim ((os.map Ob.om).set i { x.om with a := a }) Z (w.setCell ⟨g, i * 5 + 1, none⟩ (.int .i64 a))) := ⟨Z, ⟨used, R, _, k1, by rw [om_set]; rfl⟩, k2, fun _ c => Or.inl c⟩
      clear hv hx hat hR hrow hc hm c hk5 htb hoi k1 k2 HLP
      go_enter Tryd.func26, Tryd.ntmps26
      go_wp2_with fail
      refine HF.out.mono ?_
      rintro e w' ⟨rfl, hw'⟩
      subst hw'
      clear HF
      go_wp2
      go_ret
      exact ⟨rfl, HQ.out⟩
  · have hm : markM (os.map Ob.om) o a = (5, os.map Ob.om) := by unfold markM; rw [atM_map, if_neg c]
    rw [hm]
    obtain ⟨ob, a0, n0, hc2, ha0⟩ : ∃ ob a0 cap, w.cell? ⟨hb, 2, none⟩ = some (.slice a0 os.length cap) ∧ (0 < os.length → a0 = some ⟨ob, 0, none⟩) := by
      rcases rowForm hv.row with ⟨e, e0⟩ | ⟨g, cap, e, _⟩
      · exact ⟨0, none, 0, by rw [hv.c2, e, e0], fun q => by omega⟩
      · exact ⟨g, _, cap, by rw [hv.c2, e], fun _ => rfl⟩
    have HF := hide_p (hfind_any hb ob os.length n0 a0 o w hc2 ha0 hlen)
    rw [show objAt ob os.length o = none by unfold objAt; rw [if_neg c]] at HF
    clear hv hm c hc2 ha0
    go_enter Tryd.func26, Tryd.ntmps26
    go_wp2_with fail
    refine HF.out.mono ?_
    rintro e w' ⟨rfl, rfl⟩
    clear HF
    go_wp2
    go_ret
    exact ⟨rfl, HLP.out⟩

end Go.Proofs.YtjlcdpablnnplaaDoor

/-
  Layer 9: the landed heap's slots.
-/
namespace Go.Proofs.YtjlcdpablnnplaaDoor
set_option maxRecDepth 100000
open Go.RowKit Flo

/-- Where a slot lies. -/
def slotP (os : List Ob) (o i : Int) : Option Addr := if 1 ≤ o ∧ o ≤ os.length then (os[(o - 1).toNat]?).bind fun x => if 0 ≤ i ∧ i < x.sl.length then some ⟨x.sb, i.toNat * 4, none⟩ else none else none

set_option maxHeartbeats 1000000 in
theorem hslot_any {w : World} {hb lim used : Nat} {R : Value} {os : List Ob} {Z : Nat → Prop} (hv : Hv w hb lim used R os Z) (o i : Int) :
    Calls Tryd.prog 42 #[.pointer (some ⟨hb, 0, none⟩), .int .i64 o, .int .i64 i] w fun e w' => e = .returned (.pointer (slotP os o i)) ∧ w' = w := by
  have hlen : os.length ≤ 1099511627776 := by have := sum_len os; have := hv.sum; have := hv.hu; have := hv.hl; omega
  by_cases c : 1 ≤ o ∧ o ≤ os.length
  · obtain ⟨p, hoi⟩ : ∃ p : Nat, o = (p : Int) + 1 := ⟨(o - 1).toNat, by omega⟩
    have hil : p < os.length := by omega
    obtain ⟨x, hx⟩ : ∃ x, os[p]? = some x := ⟨os[p], List.getElem?_eq_getElem hil⟩
    obtain ⟨g, cap, hR⟩ : ∃ g cap, R = .slice (some ⟨g, 0, none⟩) os.length cap := by
      rcases rowForm hv.row with ⟨e, e0⟩ | ⟨g, cap, e, _⟩
      · omega
      · exact ⟨g, cap, e⟩
    have HF := hide_p (hfind_any hb g os.length cap (some ⟨g, 0, none⟩) o w (by rw [hv.c2, hR]) (fun _ => rfl) hlen)
    rw [show objAt g os.length o = some ⟨g, p * 5, none⟩ by unfold objAt; rw [if_pos c]; congr 2; omega] at HF
    have hrow := hv.row
    rw [hR] at hrow
    have c3 : w.cell? ⟨g, p * 5 + 3, none⟩ = some x.slV := by rw [hrow.cellAt (p * 5 + 3) (by omega), obC_at os p x hx 3 (by omega)]; rfl
    obtain ⟨sa, sc, hsl, hsa⟩ : ∃ sa sc, x.slV = .slice sa x.sl.length sc ∧ (0 < x.sl.length → sa = some ⟨x.sb, 0, none⟩) := by
      unfold Ob.slV
      cases ht : x.tb with
      | some t => exact ⟨none, 0, by have := (((hv.ob p x hx).tab t ht).1.2.2.2); simp [this], fun q => by have := (((hv.ob p x hx).tab t ht).1.2.2.2); rw [this] at q; simp at q⟩
      | none => exact ⟨_, _, rfl, fun _ => rfl⟩
    rw [hsl] at c3
    have hsl2 : x.sl.length ≤ 1048576 := by have := sum_ge os p x hx; have := hv.sum; have := hv.hu; have := hv.hl; have hw : x.wt = 1 + x.es.length + x.sl.length := rfl; omega
    have hres : slotP os o i = if 0 ≤ i ∧ i < x.sl.length then some ⟨x.sb, i.toNat * 4, none⟩ else none := by unfold slotP; rw [if_pos c, show (o - 1).toNat = p by omega, hx]; rfl
    rw [hres]
    by_cases d : 0 ≤ i ∧ i < x.sl.length
    · rw [if_pos d]
      obtain ⟨q, hq⟩ : ∃ q : Nat, i = (q : Int) := ⟨i.toNat, by omega⟩
      have hql : q < x.sl.length := by omega
      rw [hsa (by omega)] at c3
      rw [show i.toNat = q by omega]
      subst hq
      have d1 : ¬ ((q : Int) < 0) := by omega
      have d2 : ¬ ((q : Int) ≥ (x.sl.length : Int)) := by omega
      have d3 : (q : Int) < (x.sl.length : Int) := by omega
      clear hv hx hR hrow hres c hoi hsl hsa d
      generalize x.sl.length = n at *
      generalize x.sb = sb at *
      go_enter Tryd.func42, Tryd.ntmps42
      go_wp2_with fail
      refine HF.out.mono ?_
      rintro e w' ⟨rfl, rfl⟩
      clear HF
      go_wp2
      go_ret
      exact ⟨rfl, rfl⟩
    · rw [if_neg d]
      clear hsa
      by_cases d1 : i < 0
      · clear hv hx hR hrow hres c hoi hsl
        generalize x.sl.length = n at *
        go_enter Tryd.func42, Tryd.ntmps42
        go_wp2_with fail
        refine HF.out.mono ?_
        rintro e w' ⟨rfl, rfl⟩
        clear HF
        go_wp2
        go_ret
        exact ⟨rfl, rfl⟩
      · have d2 : i ≥ (x.sl.length : Int) := by omega
        clear hv hx hR hrow hres c hoi hsl
        generalize x.sl.length = n at *
        go_enter Tryd.func42, Tryd.ntmps42
        go_wp2_with fail
        refine HF.out.mono ?_
        rintro e w' ⟨rfl, rfl⟩
        clear HF
        go_wp2
        go_ret
        exact ⟨rfl, rfl⟩
  · rw [show slotP os o i = none by unfold slotP; rw [if_neg c]]
    obtain ⟨ob, a0, n0, hc2, ha0⟩ : ∃ ob a0 cap, w.cell? ⟨hb, 2, none⟩ = some (.slice a0 os.length cap) ∧ (0 < os.length → a0 = some ⟨ob, 0, none⟩) := by
      rcases rowForm hv.row with ⟨e, e0⟩ | ⟨g, cap, e, _⟩
      · exact ⟨0, none, 0, by rw [hv.c2, e, e0], fun q => by omega⟩
      · exact ⟨g, _, cap, by rw [hv.c2, e], fun _ => rfl⟩
    have HF := hide_p (hfind_any hb ob os.length n0 a0 o w hc2 ha0 hlen)
    rw [show objAt ob os.length o = none by unfold objAt; rw [if_neg c]] at HF
    clear hv c hc2 ha0
    go_enter Tryd.func42, Tryd.ntmps42
    go_wp2_with fail
    refine HF.out.mono ?_
    rintro e w' ⟨rfl, rfl⟩
    clear HF
    go_wp2
    go_ret
    exact ⟨rfl, rfl⟩

theorem frozen_stores {g o b : Nat} : ∀ {us : List (Nat × Value)} {w : World} (j : Nat), (stores w g o us).frozen? ⟨b, j, none⟩ = w.frozen? ⟨b, j, none⟩
  | [], _, _ => rfl
  | _ :: us, _, j => (frozen_stores (us := us) j).trans (World.frozen?_setCell _ _ _ _)
/-- A slot has another value. -/
theorem Hv.slot {w : World} {hb lim used i p : Nat} {R : Value} {os : List Ob} {Z : Nat → Prop} {x : Ob} (h : Hv w hb lim used R os Z) (hi : os[i]? = some x) (hp : p < x.sl.length) (v : V4) :
    (∃ u, At4 w x.sb (p * 4) u) ∧ (∀ j, w.frozen? ⟨x.sb, j, none⟩ = false) ∧ LP w hb lim ((os.map Ob.om).set i { x.om with sl := x.sl.set p v }) Z (stores w x.sb (p * 4) [(0, .int .i64 v.K), (1, .int .u64 v.N), (2, .string v.S), (3, .int .i64 v.O)]) := by
  have ht : x.tb = none := by
    cases ht : x.tb with
    | none => rfl
    | some t => have := (((h.ob i x hi).tab t ht).1.2.2.2); rw [this] at hp; simp at hp
  obtain ⟨h1, h2, h3, h4, h5⟩ := (h.ob i x hi).oth ht
  have hat : ∀ (q : Nat) u, x.sl[q]? = some u → At4 w x.sb (q * 4) u := fun q u hu => by
    have := h5 q u hu
    rw [Nat.mul_comm 4 q] at this
    exact this
  obtain ⟨u, hu⟩ : ∃ u, x.sl[p]? = some u := ⟨x.sl[p], List.getElem?_eq_getElem hp⟩
  refine ⟨⟨u, hat p u hu⟩, h4, ?_⟩
  have k : Wx (fun j => j = x.sb) w (stores w x.sb (p * 4) [(0, .int .i64 v.K), (1, .int .u64 v.N), (2, .string v.S), (3, .int .i64 v.O)]) := wx_stores _ _
  have hs : (stores w x.sb (p * 4) [(0, .int .i64 v.K), (1, .int .u64 v.N), (2, .string v.S), (3, .int .i64 v.O)]).heap.size = w.heap.size := size_stores _ _
  have hcell : ∀ o u0, w.cell? ⟨x.sb, o, none⟩ = some u0 → o ≠ p * 4 → o ≠ p * 4 + 1 → o ≠ p * 4 + 2 → o ≠ p * 4 + 3 → (stores w x.sb (p * 4) [(0, .int .i64 v.K), (1, .int .u64 v.N), (2, .string v.S), (3, .int .i64 v.O)]).cell? ⟨x.sb, o, none⟩ = some u0 := fun o u0 hc n0 n1 n2 n3 => by
    show ((((w.setCell ⟨x.sb, p * 4, none⟩ (.int .i64 v.K)).setCell ⟨x.sb, p * 4 + 1, none⟩ (.int .u64 v.N)).setCell ⟨x.sb, p * 4 + 2, none⟩ (.string v.S)).setCell ⟨x.sb, p * 4 + 3, none⟩ (.int .i64 v.O)).cell? ⟨x.sb, o, none⟩ = some u0
    rw [World.cell?_setCell_other _ _ _ _ (by simp <;> omega), World.cell?_setCell_other _ _ _ _ (by simp <;> omega), World.cell?_setCell_other _ _ _ _ (by simp <;> omega), World.cell?_setCell_other _ _ _ _ (by simp <;> omega)]
    exact hc
  have hnew : At4 (stores w x.sb (p * 4) [(0, .int .i64 v.K), (1, .int .u64 v.N), (2, .string v.S), (3, .int .i64 v.O)]) x.sb (p * 4) v := by
    have a := hat p u hu
    show At4 ((((w.setCell ⟨x.sb, p * 4, none⟩ (.int .i64 v.K)).setCell ⟨x.sb, p * 4 + 1, none⟩ (.int .u64 v.N)).setCell ⟨x.sb, p * 4 + 2, none⟩ (.string v.S)).setCell ⟨x.sb, p * 4 + 3, none⟩ (.int .i64 v.O)) x.sb (p * 4) v
    refine ⟨?_, ?_, ?_, ?_⟩
    · rw [World.cell?_setCell_other _ _ _ _ (by simp), World.cell?_setCell_other _ _ _ _ (by simp), World.cell?_setCell_other _ _ _ _ (by simp)]
      exact World.cell?_setCell_same _ _ _ a.c0
    · rw [World.cell?_setCell_other _ _ _ _ (by simp), World.cell?_setCell_other _ _ _ _ (by simp)]
      exact World.cell?_setCell_same _ _ _ (by rw [World.cell?_setCell_other _ _ _ _ (by simp)]; exact a.c1)
    · rw [World.cell?_setCell_other _ _ _ _ (by simp)]
      exact World.cell?_setCell_same _ _ _ (by rw [World.cell?_setCell_other _ _ _ _ (by simp), World.cell?_setCell_other _ _ _ _ (by simp)]; exact a.c2)
    · exact World.cell?_setCell_same _ _ _ (by rw [World.cell?_setCell_other _ _ _ _ (by simp), World.cell?_setCell_other _ _ _ _ (by simp), World.cell?_setCell_other _ _ _ _ (by simp)]; exact a.c3)
  have key := h.put0 (o' := { x with sl := x.sl.set p v }) hi k (fun j hj => Or.inl ((h2 j).2 hj)) ?_ ⟨fun t e1 => ?_, fun _ => ⟨h1, h2, by rw [hs]; exact h3, fun j => (frozen_stores j).trans (h4 j), fun q u' hq => ?_⟩⟩ (fun j hj => Or.inl hj) (fun j hj => by rw [hs]; have := (h2 j).1 hj; omega) rfl (h.mt i x hi) (by simp [Ob.wt])
  · obtain ⟨k1, k2⟩ := key
    refine ⟨_, ⟨_, _, _, k1, by rw [om_set]; rfl⟩, k2, fun j hj => ?_⟩
    rcases hj with c | c
    · exact Or.inl c
    · exact Or.inr c.1
  · unfold Ob.cells Ob.slV
    simp [ht, Ob.ptr]
  · have e2 : x.tb = some t := e1
    rw [ht] at e2; cases e2
  · have hq2 : (x.sl.set p v)[q]? = some u' := hq
    show At4 _ x.sb (4 * q) u'
    rw [Nat.mul_comm 4 q]
    by_cases c : p = q
    · subst c
      rw [List.getElem?_set_self hp] at hq2
      injection hq2 with hq2
      subst hq2
      exact hnew
    · rw [List.getElem?_set_ne c] at hq2
      have a := hat q u' hq2
      exact ⟨hcell _ _ a.c0 (by omega) (by omega) (by omega) (by omega), hcell _ _ a.c1 (by omega) (by omega) (by omega) (by omega), hcell _ _ a.c2 (by omega) (by omega) (by omega) (by omega), hcell _ _ a.c3 (by omega) (by omega) (by omega) (by omega)⟩

end Go.Proofs.YtjlcdpablnnplaaDoor

/-
  Layer 9: the landed heap's SetSlot by lists.
-/
namespace Go.Proofs.YtjlcdpablnnplaaDoor
set_option maxRecDepth 100000
open Go.RowKit Flo

theorem LP.then {w w1 w2 : World} {hb lim : Nat} {L : List Om} {Z : Nat → Prop} (h : LP w hb lim L Z w1) (k : Below w1.heap.size w1 w2) : LP w hb lim L Z w2 := by
  obtain ⟨Z', ⟨used, R, os, h1, h2⟩, h3, h4⟩ := h
  exact ⟨Z', ⟨used, R, os, h1.below k, h2⟩, h3.trans (Wx.of_below Z k) (fun _ c => Or.inl c), h4⟩

set_option maxHeartbeats 1000000 in
theorem lslot_any {w : World} {hb lim : Nat} {L : List Om} {Z : Nat → Prop} (h : LH w hb lim L Z) (o i : Int) (v : V4) (hN : U64 v.N) :
    Calls Tryd.prog 24 #[.pointer (some ⟨hb, 0, none⟩), .int .i64 o, .int .i64 i, .agg #[.int .i64 v.K, .int .u64 v.N, .string v.S, .int .i64 v.O]] w fun e w' => e = .returned (.int .i64 (slotM L o i v).1) ∧ LP w hb lim (slotM L o i v).2 Z w' := by
  obtain ⟨used, R, os, hv, rfl⟩ := h
  have HB0 : Hid (Below w.heap.size w (w.alloc (.cells #[.int .i64 v.K, .int .u64 v.N, .string v.S, .int .i64 v.O] 35))) := (Below.refl _ _).alloc (Nat.le_refl _) _
  have HS := hide_p (hslot_any (hv.below HB0.out) o i)
  have HLP : Hid (LP w hb lim (os.map Ob.om) Z (w.alloc (.cells #[.int .i64 v.K, .int .u64 v.N, .string v.S, .int .i64 v.O] 35))) := LH.below ⟨used, R, os, hv, rfl⟩ HB0.out
  by_cases c : ∃ (p q : Nat) (x : Ob), o = (p : Int) + 1 ∧ os[p]? = some x ∧ i = (q : Int) ∧ q < x.sl.length
  · obtain ⟨p, q, x, ho, hx, hi, hq⟩ := c
    have hpl : p < os.length := by
      rcases Nat.lt_or_ge p os.length with c | c
      · exact c
      · rw [List.getElem?_eq_none c] at hx; cases hx
    have hat : atM (os.map Ob.om) o = some x.om := by rw [atM_map, if_pos (by omega), show (o - 1).toNat = p by omega, hx]; rfl
    have hm : slotM (os.map Ob.om) o i v = (0, (os.map Ob.om).set p { x.om with sl := x.sl.set q (slV v) }) := by
      unfold slotM
      rw [hat]
      simp only
      rw [if_pos (by show 0 ≤ i ∧ i < (x.sl.length : Int); omega), show (o - 1).toNat = p by omega, show i.toNat = q by omega]
      rfl
    rw [hm]
    rw [show slotP os o i = some ⟨x.sb, q * 4, none⟩ by unfold slotP; rw [if_pos (by omega), show (o - 1).toNat = p by omega, hx]; show (if 0 ≤ i ∧ i < (x.sl.length : Int) then some (⟨x.sb, i.toNat * 4, none⟩ : Addr) else none) = _; rw [if_pos (by omega), show i.toNat = q by omega]] at HS
    have hsb : x.sb < w.heap.size := by
      cases htb : x.tb with
      | none => exact ((hv.ob p x hx).oth htb).2.2.1
      | some t => have := (((hv.ob p x hx).tab t htb).1.2.2.2); rw [this] at hq; simp at hq
    have HQ : Hid (∀ w1 u, Below w.heap.size w w1 → (∃ y, At4 w1 x.sb (q * 4) y) ∧ (∀ j, w1.frozen? ⟨x.sb, j, none⟩ = false) ∧ LP w hb lim ((os.map Ob.om).set p { x.om with sl := x.sl.set q u }) Z ((((w1.setCell ⟨x.sb, q * 4, none⟩ (.int .i64 u.K)).setCell ⟨x.sb, q * 4 + 1, none⟩ (.int .u64 u.N)).setCell ⟨x.sb, q * 4 + 2, none⟩ (.string u.S)).setCell ⟨x.sb, q * 4 + 3, none⟩ (.int .i64 u.O))) := fun w1 u hb1 => by
      obtain ⟨k1, k2, k3⟩ := (hv.below hb1).slot hx hq u
      exact ⟨k1, k2, LP.from hb1 k3⟩
    clear hv hm hat hx ho hi hq hpl HLP
    generalize x.sb = sb at *
    by_cases h9 : v.K = 9
    · have hsl : slV v = v := by unfold slV; rw [if_pos h9]
      rw [hsl]
      obtain ⟨vK, vN, vS, vO⟩ := v
      simp only at h9 HB0 HS hN
      subst h9
      simp only
      obtain ⟨⟨y, hy⟩, hf, hlp⟩ := HQ.out w ⟨9, vN, vS, vO⟩ (Below.refl _ _)
      have a0 := hy.c0
      have a1 := hy.c1
      have a2 := hy.c2
      have a3 := hy.c3
      have HL := hide_p (LP.then hlp ((Below.refl _ _).alloc (Nat.le_refl _) (.cells #[.int .i64 9, .int .u64 vN, .string vS, .int .i64 vO] 35)))
      have hne : sb ≠ w.heap.size := by omega
      clear hy hlp HQ hsl hN
      go_enter Tryd.func24, Tryd.ntmps24
      go_wp2_with fail
      refine HS.out.mono ?_
      rintro e w' ⟨rfl, hw'⟩
      subst hw'
      clear HS
      go_wp2
      go_ret
      exact ⟨rfl, HL.out⟩
    · have hsl : slV v = ⟨nK v.K, nN v.K v.N, nS v.K v.S, nO v.K v.O⟩ := by unfold slV; rw [if_neg h9]; rfl
      rw [hsl]
      obtain ⟨v', hv'⟩ : ∃ v' : V4, v' = ⟨nK v.K, nN v.K v.N, nS v.K v.S, nO v.K v.O⟩ := ⟨_, rfl⟩
      rw [← hv']
      have HN2 : Hid (∀ w, Calls Tryd.prog 33 #[.agg #[.int .i64 v.K, .int .u64 v.N, .string v.S, .int .i64 v.O]] w fun e w' => e = .returned (.agg #[.int .i64 v'.K, .int .u64 v'.N, .string v'.S, .int .i64 v'.O]) ∧ Below w.heap.size w w') := by rw [hv']; exact fun w => normal_any v.K v.N v.S v.O w hN
      clear hsl hv' hN
      go_enter Tryd.func24, Tryd.ntmps24
      go_wp2_with fail
      refine HS.out.mono ?_
      rintro e w' ⟨rfl, hw'⟩
      subst hw'
      clear HS
      go_wp2_with fail
      refine (HN2.out _).mono ?_
      rintro e w1 ⟨rfl, hb1⟩
      obtain ⟨p0, p1, p2, p3⟩ := keep4 (b := w.heap.size) (v0 := .int .i64 v.K) (v1 := .int .u64 v.N) (v2 := .string v.S) (v3 := .int .i64 v.O) ⟨by go_simp, by go_simp, by go_simp, by go_simp⟩ hb1
      have hf1 : ∀ k, w1.frozen? ⟨w.heap.size, k, none⟩ = false := fun k => (hb1.frozen (by simp)).trans (by go_simp)
      have HB1 : Hid (Below w.heap.size w w1) := HB0.out.trans (hb1.mono (by simp))
      have hsz1 := hb1.size
      simp at hsz1
      clear hb1 HN2 HB0
      go_upto_region 6 with fail
      obtain ⟨w5, hw5⟩ : ∃ w5, w5 = (((w1.setCell ⟨w.heap.size, 0, none⟩ (.int .i64 v'.K)).setCell ⟨w.heap.size, 1, none⟩ (.int .u64 v'.N)).setCell ⟨w.heap.size, 2, none⟩ (.string v'.S)).setCell ⟨w.heap.size, 3, none⟩ (.int .i64 v'.O) := ⟨_, rfl⟩
      have b0 : w5.cell? ⟨w.heap.size, 0, none⟩ = some (.int .i64 v'.K) := by rw [hw5]; go_simp
      have b1 : w5.cell? ⟨w.heap.size, 1, none⟩ = some (.int .u64 v'.N) := by rw [hw5]; go_simp
      have b2 : w5.cell? ⟨w.heap.size, 2, none⟩ = some (.string v'.S) := by rw [hw5]; go_simp
      have b3 : w5.cell? ⟨w.heap.size, 3, none⟩ = some (.int .i64 v'.O) := by rw [hw5]; go_simp
      have HB : Hid (Below w.heap.size w w5) := by rw [hw5]; exact set41 HB1.out (Nat.le_refl _) _ _ _ _
      rw [← hw5]
      clear hw5 HB1 p0 p1 p2 p3 hf1 hsz1
      obtain ⟨⟨y, hy⟩, hf, hlp⟩ := HQ.out w5 v' HB.out
      have a0 := hy.c0
      have a1 := hy.c1
      have a2 := hy.c2
      have a3 := hy.c3
      have HL := hide_p hlp
      have hne : sb ≠ w.heap.size := by omega
      clear hy hlp HQ HB
      go_wp2
      go_ret
      exact ⟨rfl, HL.out⟩
  · have hm : slotM (os.map Ob.om) o i v = (5, os.map Ob.om) := by
      unfold slotM
      rw [atM_map]
      by_cases d : 1 ≤ o ∧ o ≤ os.length
      · rw [if_pos d]
        cases hx : os[(o - 1).toNat]? with
        | none => rfl
        | some x =>
          simp only [Option.map_some]
          rw [if_neg]
          intro hq
          have hq2 : 0 ≤ i ∧ i < (x.sl.length : Int) := hq
          exact c ⟨(o - 1).toNat, i.toNat, x, by omega, hx, by omega, by omega⟩
      · rw [if_neg d]
    rw [hm]
    rw [show slotP os o i = none by
      unfold slotP
      by_cases d : 1 ≤ o ∧ o ≤ os.length
      · rw [if_pos d]
        cases hx : os[(o - 1).toNat]? with
        | none => rfl
        | some x =>
          show (if 0 ≤ i ∧ i < (x.sl.length : Int) then some (⟨x.sb, i.toNat * 4, none⟩ : Addr) else none) = _
          rw [if_neg]
          intro hq2
          exact c ⟨(o - 1).toNat, i.toNat, x, by omega, hx, by omega, by omega⟩
      · rw [if_neg d]] at HS
    clear hv hm c HB0
    go_enter Tryd.func24, Tryd.ntmps24
    go_wp2_with fail
    refine HS.out.mono ?_
    rintro e w' ⟨rfl, rfl⟩
    clear HS
    go_wp2
    go_ret
    exact ⟨rfl, HLP.out⟩

end Go.Proofs.YtjlcdpablnnplaaDoor

/-
  Layer 9: the landed heap's Make by lists.
-/
namespace Go.Proofs.YtjlcdpablnnplaaDoor
set_option maxRecDepth 100000
open Go.RowKit Flo

def makeM (lim : Nat) (L : List Om) (k a b n : Int) : (Int × Int) × List Om :=
  if (k ≠ 6 ∧ k ≠ 7 ∧ k ≠ 9) ∨ n < 0 ∨ 255 < n then ((0, 1), L) else if usedM L + (1 + n.toNat) ≤ lim then ((((L.length + 1 : Nat) : Int), 0), L ++ [⟨k, a, b, V0, [], [], List.replicate n.toNat V0⟩]) else ((0, 2), L)
theorem made_vals (n : Nat) : (madeCells #[.int .i64 0, .int .u64 0, .string ⟨#[]⟩, .int .i64 0] (n * 4)).toList = vC (List.replicate n V0) := by
  apply List.ext_getElem?
  intro i
  rcases Nat.lt_or_ge i (n * 4) with c | c
  · have h1 : (List.replicate n V0)[i / 4]? = some V0 := by rw [List.getElem?_replicate, if_pos (by omega)]
    have h2 := vC_at (List.replicate n V0) (i / 4) V0 h1 (i % 4) (by omega)
    rw [show i / 4 * 4 + i % 4 = i by omega] at h2
    rw [h2]
    unfold madeCells
    simp only [Array.toList_map, List.getElem?_map]
    have h3 : (Array.range (n * 4)).toList[i]? = some i := by simp [c]
    rw [h3]
    have h4 : i % 4 = 0 ∨ i % 4 = 1 ∨ i % 4 = 2 ∨ i % 4 = 3 := by omega
    show some ((#[.int .i64 0, .int .u64 0, .string ⟨#[]⟩, .int .i64 0] : Array Value)[i % 4]!) = _
    rcases h4 with e | e | e | e <;> (rw [e]; rfl)
  · rw [List.getElem?_eq_none (by rw [Array.length_toList, size_madeCells]; exact c), List.getElem?_eq_none (by rw [vC_length, List.length_replicate]; exact c)]

/-- A new object that is no table. -/
def othO (k a b : Int) (sb n : Nat) : Ob := ⟨k, a, b, sb, List.replicate n V0, none, [], V0, fun j => j = sb⟩
theorem othO_v {w : World} {k a b : Int} {sb n : Nat} (hk : k ≠ 5) (h : Vr w (.slice (some ⟨sb, 0, none⟩) n n) (List.replicate n V0)) : Obv w (othO k a b sb n) := by
  refine ⟨fun t e => by (cases e), fun _ => ⟨⟨rfl, hk⟩, fun _ => Iff.rfl, (World.ownsRow.lt h sb rfl).2, fun j => ?_, fun i v hv => ?_⟩⟩
  · unfold Vr at h
    rw [List.length_replicate] at h
    exact owns_free h j
  · have := vr_at h hv
    rw [Nat.mul_comm i 4] at this
    exact this

set_option maxHeartbeats 1000000 in
theorem make_ok {w : World} {hb lim used : Nat} {R : Value} {os : List Ob} {Z : Nat → Prop} (hv : Hv w hb lim used R os Z) (k a b : Int) (n : Nat) (hk : k = 6 ∨ k = 7 ∨ k = 9) (hn : n ≤ 255) (hu : used + (1 + n) ≤ lim) :
    Calls Tryd.prog 22 #[.pointer (some ⟨hb, 0, none⟩), .int .i64 k, .int .i64 a, .int .i64 b, .int .i64 (n : Int)] w fun e w' => e = .returned (.tuple #[.int .i64 ((os.length + 1 : Nat) : Int), .int .i64 0]) ∧ LP w hb lim (os.map Ob.om ++ [⟨k, a, b, V0, [], [], List.replicate n V0⟩]) Z w' := by
  have hl := hide_p (left_any hb lim used w hv.c0 hv.c1 ⟨by omega, by have := hv.hl; omega⟩ ⟨by omega, by have := hv.hl; have := hv.hu; omega⟩)
  have hc : ¬ ((lim : Int) - (used : Int) < 1 + (n : Int)) := by omega
  have hn0 : ¬ ((n : Int) < 0) := by omega
  have hn1 : ¬ ((n : Int) > 255) := by omega
  have HA : Hid (∀ w1 w2, Below w.heap.size w w1 → w2.ownsRow w.heap.size 35 4 (.slice (some ⟨w1.heap.size, 0, none⟩) n n) n (madeCells #[.int .i64 0, .int .u64 0, .string ⟨#[]⟩, .int .i64 0] (n * 4)).toList → w1.grownBy w2 none → Calls Tryd.prog 29 #[.pointer (some ⟨hb, 0, none⟩), .agg #[.int .i64 k, .int .i64 a, .int .i64 b, .slice (some ⟨w1.heap.size, 0, none⟩) n n, .pointer none]] w2 fun e w' => e = .returned (.int .i64 ((os.length + 1 : Nat) : Int)) ∧ LP w hb lim (os.map Ob.om ++ [⟨k, a, b, V0, [], [], List.replicate n V0⟩]) Z w') := fun w1 w2 hb1 hown hg => by
    have hs := hb1.size
    have hg2 : Below w1.heap.size w1 w2 := ⟨hg.os, hg.tape, hg.output, hg.size, fun j hj => hg.block j hj (fun e => by cases e)⟩
    have hb2 : Below w.heap.size w w2 := hb1.trans (hg2.mono hs)
    have hv2 := hv.below hb2
    rw [made_vals] at hown
    have hvr : Vr w2 (.slice (some ⟨w1.heap.size, 0, none⟩) n n) (List.replicate n V0) := vr_of (B := w.heap.size) (by rw [List.length_replicate]; exact hown)
    have hk5 : k ≠ 5 := by omega
    have hlt := (World.ownsRow.lt hown w1.heap.size rfl).2
    have hadd := hadd_any hb lim used R os Z (othO k a b w1.heap.size n) w2 hv2 (othO_v hk5 hvr) (fun j hj => by
      have e : j = w1.heap.size := hj
      have two := hv.two
      exact ⟨by omega, fun c => by have := hv.lt j c; omega, by omega⟩) rfl rfl (by show used + 1 + (List.replicate n V0).length ≤ lim; rw [List.length_replicate]; omega)
    have e1 : (othO k a b w1.heap.size n).slV = .slice (some ⟨w1.heap.size, 0, none⟩) n n := by unfold Ob.slV othO; simp
    rw [e1] at hadd
    refine hadd.mono ?_
    rintro e w' ⟨rfl, R', h1, h2⟩
    refine ⟨rfl, _, ⟨_, R', _, h1, by rw [List.map_append]; rfl⟩, (Wx.of_below Z hb2).trans h2 (fun _ c => Or.inl c), fun j hj => ?_⟩
    rcases hj with (c | c) | c
    · exact Or.inl c
    · exact Or.inr (by have := hb2.size; omega)
    · have e : j = w1.heap.size := c
      exact Or.inr (by omega)
  have HBQ : Hid (∀ q, Below w.heap.size w (w.drewN q)) := fun q => hp_drewN w q
  obtain ⟨i1, hi1, hy0, hy1, hy2⟩ := valInfo
  have hul : used ≤ 1048576 ∧ lim ≤ 1048576 := ⟨Nat.le_trans hv.hu hv.hl, hv.hl⟩
  clear hv hu
  generalize os.length = m at *
  generalize os.map Ob.om = L at *
  rcases hk with rfl | rfl | rfl
  all_goals
    go_enter Tryd.func22, Tryd.ntmps22
    go_wp2_with fail
    refine hl.out.mono ?_
    rintro e w1 ⟨rfl, q, rfl⟩
    clear hl
    go_wp2_with (at_make; refine wpList_make_full _ rfl _ _ 61 rfl w.heap.size 35 i1 _ 4 Tryd.underlying61 hi1 hy0 hy1 .i64 .i64 _ _ n rfl rfl rfl rfl (by rw [hy2]; omega) (by unfold maxLen; omega) (Nat.le_refl _) ?_)
    intro w2 q1 q2
    have HC := hide_p (HA.out (w.drewN q) w2 (HBQ.out q) q1 q2)
    clear q1 q2 HA
    go_wp2_with fail
    refine HC.out.mono ?_
    rintro e w3 ⟨rfl, hlp⟩
    have HL := hide_p hlp
    clear hlp HC
    go_wp2
    go_ret2
    exact ⟨rfl, HL.out⟩

set_option maxHeartbeats 1000000 in
theorem make_bad (w : World) (hb : Nat) (k a b n : Int) (h : (k ≠ 6 ∧ k ≠ 7 ∧ k ≠ 9) ∨ n < 0 ∨ 255 < n) :
    Calls Tryd.prog 22 #[.pointer (some ⟨hb, 0, none⟩), .int .i64 k, .int .i64 a, .int .i64 b, .int .i64 n] w fun e w' => e = .returned (.tuple #[.int .i64 0, .int .i64 1]) ∧ w' = w := by
  have hcase : (k ≠ 6 ∧ k ≠ 7 ∧ k ≠ 9) ∨ ((k = 6 ∨ k = 7 ∨ k = 9) ∧ n < 0) ∨ ((k = 6 ∨ k = 7 ∨ k = 9) ∧ ¬ n < 0 ∧ n > 255) := by omega
  clear h
  rcases hcase with ⟨c1, c2, c3⟩ | ⟨rfl | rfl | rfl, c⟩ | ⟨rfl | rfl | rfl, c, d⟩
  all_goals
    go_enter Tryd.func22, Tryd.ntmps22
    go_wp2
    go_ret2
    exact ⟨rfl, rfl⟩

set_option maxHeartbeats 1000000 in
theorem make_full {w : World} {hb lim used : Nat} {R : Value} {os : List Ob} {Z : Nat → Prop} (hv : Hv w hb lim used R os Z) (k a b : Int) (n : Nat) (hk : k = 6 ∨ k = 7 ∨ k = 9) (hn : n ≤ 255) (hu : ¬ used + (1 + n) ≤ lim) :
    Calls Tryd.prog 22 #[.pointer (some ⟨hb, 0, none⟩), .int .i64 k, .int .i64 a, .int .i64 b, .int .i64 (n : Int)] w fun e w' => e = .returned (.tuple #[.int .i64 0, .int .i64 2]) ∧ Below w.heap.size w w' := by
  have hl := hide_p (left_any hb lim used w hv.c0 hv.c1 ⟨by omega, by have := hv.hl; omega⟩ ⟨by omega, by have := hv.hl; have := hv.hu; omega⟩)
  have hc : ((lim : Int) - (used : Int) < 1 + (n : Int)) := by omega
  have hn0 : ¬ ((n : Int) < 0) := by omega
  have hn1 : ¬ ((n : Int) > 255) := by omega
  have HBQ : Hid (∀ q, Below w.heap.size w (w.drewN q)) := fun q => hp_drewN w q
  have hul : used ≤ 1048576 ∧ lim ≤ 1048576 := ⟨Nat.le_trans hv.hu hv.hl, hv.hl⟩
  clear hv hu
  rcases hk with rfl | rfl | rfl
  all_goals
    go_enter Tryd.func22, Tryd.ntmps22
    go_wp2_with fail
    refine hl.out.mono ?_
    rintro e w1 ⟨rfl, q, rfl⟩
    clear hl
    go_wp2
    go_ret2
    exact ⟨rfl, HBQ.out q⟩

theorem lmake_any {w : World} {hb lim : Nat} {L : List Om} {Z : Nat → Prop} (h : LH w hb lim L Z) (k a b n : Int) :
    Calls Tryd.prog 22 #[.pointer (some ⟨hb, 0, none⟩), .int .i64 k, .int .i64 a, .int .i64 b, .int .i64 n] w fun e w' => e = .returned (.tuple #[.int .i64 (makeM lim L k a b n).1.1, .int .i64 (makeM lim L k a b n).1.2]) ∧ LP w hb lim (makeM lim L k a b n).2 Z w' := by
  obtain ⟨used, R, os, hv, rfl⟩ := h
  have hun : used = usedM (os.map Ob.om) := by rw [used_om]; exact hv.sum
  by_cases c : (k ≠ 6 ∧ k ≠ 7 ∧ k ≠ 9) ∨ n < 0 ∨ 255 < n
  · have hm : makeM lim (os.map Ob.om) k a b n = ((0, 1), os.map Ob.om) := by unfold makeM; rw [if_pos c]
    rw [hm]
    refine (make_bad w hb k a b n c).mono ?_
    rintro e w' ⟨rfl, rfl⟩
    exact ⟨rfl, LH.below ⟨used, R, os, hv, rfl⟩ (Below.refl _ _)⟩
  · obtain ⟨m, rfl⟩ : ∃ m : Nat, n = (m : Int) := ⟨n.toNat, by omega⟩
    by_cases d : used + (1 + m) ≤ lim
    · have hm : makeM lim (os.map Ob.om) k a b (m : Int) = ((((os.length + 1 : Nat) : Int), 0), os.map Ob.om ++ [⟨k, a, b, V0, [], [], List.replicate m V0⟩]) := by unfold makeM; rw [if_neg c, ← hun, Int.toNat_natCast, if_pos d, List.length_map]
      rw [hm]
      exact make_ok hv k a b m (by omega) (by omega) d
    · have hm : makeM lim (os.map Ob.om) k a b (m : Int) = ((0, 2), os.map Ob.om) := by unfold makeM; rw [if_neg c, ← hun, Int.toNat_natCast, if_neg d]
      rw [hm]
      refine (make_full hv k a b m (by omega) (by omega) d).mono ?_
      rintro e w' ⟨rfl, hb1⟩
      exact ⟨rfl, LH.below ⟨used, R, os, hv, rfl⟩ hb1⟩

end Go.Proofs.YtjlcdpablnnplaaDoor

/-
  A region that draws its order, the frame a letter.
-/
namespace Go.Proofs.YtjlcdpablnnplaaDoor
set_option maxRecDepth 100000

/-! ### the same, the frame a letter -/
theorem eval_put_ne (a : Act) {d t : Nat} (v : Value) (h : d ≠ t) : (a.put (some d) v).eval (.tmp t) = a.eval (.tmp t) := by
  show (a.tmps.setIfInBounds d v).getD t undef = a.tmps.getD t undef
  simp [Array.getElem?_setIfInBounds_ne h]
theorem eval_put_eq (a : Act) {d : Nat} (v : Value) (h : d < a.tmps.size) : (a.put (some d) v).eval (.tmp d) = v := by
  show (a.tmps.setIfInBounds d v).getD d undef = v
  simp [h]
theorem size_put (a : Act) (d : Nat) (v : Value) : (a.put (some d) v).tmps.size = a.tmps.size := by
  show (a.tmps.setIfInBounds d v).size = _
  simp
theorem put_put (a : Act) (d : Nat) (u v : Value) : (a.put (some d) u).put (some d) v = a.put (some d) v := by
  unfold Act.put
  simp only
  congr 1
  apply Array.ext_getElem?
  intro i
  by_cases c : d = i
  · subst c
    rcases Nat.lt_or_ge d a.tmps.size with h | h
    · simp [h]
    · simp [h]
  · rw [Array.getElem?_setIfInBounds_ne c, Array.getElem?_setIfInBounds_ne c, Array.getElem?_setIfInBounds_ne c]
theorem put_swap (a : Act) {d e : Nat} (u v : Value) (h : d ≠ e) : (a.put (some d) u).put (some e) v = (a.put (some e) v).put (some d) u := by
  unfold Act.put
  simp only
  congr 1
  apply Array.ext_getElem?
  intro i
  by_cases c : d = i
  · subst c
    rw [Array.getElem?_setIfInBounds_ne (fun q => h q.symm)]
    rcases Nat.lt_or_ge d a.tmps.size with q | q
    · simp [q]
    · simp [q]
  · rw [Array.getElem?_setIfInBounds_ne c]
    by_cases c2 : e = i
    · subst c2
      rcases Nat.lt_or_ge e a.tmps.size with q | q
      · simp [q]
      · simp [q]
    · rw [Array.getElem?_setIfInBounds_ne c2, Array.getElem?_setIfInBounds_ne c2, Array.getElem?_setIfInBounds_ne c]
theorem puts_out : ∀ (ds : List Nat) (a : Act) (vs : List Value) (t : Nat), t ∉ ds → (puts a ds vs).eval (.tmp t) = a.eval (.tmp t)
  | [], _, _, _, _ => by unfold puts; rfl
  | _ :: _, _, [], _, _ => by unfold puts; rfl
  | d :: ds, a, v :: vs, t, h => by
    show (puts (a.put (some d) v) ds vs).eval (.tmp t) = _
    rw [puts_out ds _ vs t (fun c => h (List.mem_cons_of_mem _ c)), eval_put_ne a v (fun c => h (by rw [c]; exact List.mem_cons_self))]
theorem puts_in : ∀ (ds : List Nat) (a : Act) (vs : List Value) (p d : Nat) (v : Value), ds.Nodup → (∀ x ∈ ds, x < a.tmps.size) → ds[p]? = some d → vs[p]? = some v → (puts a ds vs).eval (.tmp d) = v
  | [], _, _, p, _, _, _, _, h, _ => by simp at h
  | _ :: _, _, [], p, _, _, _, _, _, h => by simp at h
  | e :: ds, a, u :: vs, 0, d, v, hn, hs, hd, hv => by
    simp only [List.getElem?_cons_zero, Option.some.injEq] at hd hv
    subst hd; subst hv
    show (puts (a.put (some e) u) ds vs).eval (.tmp e) = u
    rw [puts_out ds _ vs e (List.nodup_cons.1 hn).1]
    exact eval_put_eq a u (hs e List.mem_cons_self)
  | e :: ds, a, u :: vs, p + 1, d, v, hn, hs, hd, hv => by
    rw [List.getElem?_cons_succ] at hd hv
    show (puts (a.put (some e) u) ds vs).eval (.tmp d) = v
    exact puts_in ds _ vs p d v (List.nodup_cons.1 hn).2 (fun x hx => by rw [size_put]; exact hs x (List.mem_cons_of_mem _ hx)) hd hv
theorem puts_far : ∀ (ds : List Nat) (a : Act) (vs : List Value) (d : Nat) (v : Value), d ∉ ds → (puts a ds vs).put (some d) v = puts (a.put (some d) v) ds vs
  | [], _, _, _, _, _ => by unfold puts; rfl
  | _ :: _, _, [], _, _, _ => by unfold puts; rfl
  | e :: ds, a, u :: vs, d, v, h => by
    show (puts (a.put (some e) u) ds vs).put (some d) v = puts ((a.put (some d) v).put (some e) u) ds vs
    rw [puts_far ds _ vs d v (fun c => h (List.mem_cons_of_mem _ c)), put_swap a u v (fun c => h (by rw [← c]; exact List.mem_cons_self))]
theorem puts_put : ∀ (ds : List Nat) (a : Act) (vs : List Value) (p d : Nat) (v : Value), ds.Nodup → ds[p]? = some d → vs.length = ds.length → (puts a ds vs).put (some d) v = puts a ds (vs.set p v)
  | [], _, _, p, _, _, _, h, _ => by simp at h
  | _ :: _, _, [], p, _, _, _, _, h => by simp at h
  | e :: ds, a, u :: vs, 0, d, v, hn, hd, hl => by
    simp only [List.getElem?_cons_zero, Option.some.injEq] at hd
    subst hd
    show (puts (a.put (some e) u) ds vs).put (some e) v = puts (a.put (some e) v) ds vs
    rw [puts_far ds _ vs e v (List.nodup_cons.1 hn).1, put_put]
  | e :: ds, a, u :: vs, p + 1, d, v, hn, hd, hl => by
    rw [List.getElem?_cons_succ] at hd
    show (puts (a.put (some e) u) ds vs).put (some d) v = puts (a.put (some e) u) ds (vs.set p v)
    exact puts_put ds _ vs p d v (List.nodup_cons.1 hn).2 hd (by simpa using hl)

/-- One operation, the frame a letter: what its slots hold is handed on. -/
def StepAt2 (P : Program) (ops : Array Oper) (Q : Exit → Act → World → Prop) (a : Act) (ds : List Nat) (J : (Nat → Bool) → List Value → World → Prop) (i : Nat) (o : Oper) : Prop :=
  ∀ (A : Act) (L : Nat → Bool) (vs : List Value) (w : World), (∀ (p d : Nat) (v : Value), ds[p]? = some d → vs[p]? = some v → A.eval (.tmp d) = v) → (∀ t : Nat, t ∉ ds → A.eval (.tmp t) = a.eval (.tmp t)) → J L vs w → L i = false → (∀ e ∈ o.after, Region.binds .any e = true → L e.on = true) →
    ∀ K' : Act → World → Prop, (∀ (p d : Nat) (v : Value) (w' : World), ds[p]? = some d → J (Later L i) (vs.set p v) w' → K' (A.put (some d) v) w') → (∀ w', J (Later L i) vs w' → K' A w') → if Region.wanted o (yielded ops A.tmps) = true then Oper.wp P o A w K' Q else K' (A.put o.dst undef) w
def StepAll2 (P : Program) (ops : Array Oper) (Q : Exit → Act → World → Prop) (a : Act) (ds : List Nat) (J : (Nat → Bool) → List Value → World → Prop) : Nat → List Oper → Prop
  | _, [] => True
  | i, o :: l => StepAt2 P ops Q a ds J i o ∧ StepAll2 P ops Q a ds J (i + 1) l
theorem StepAll2.to {P : Program} {ops : Array Oper} {Q : Exit → Act → World → Prop} {a : Act} {ds : List Nat} {J : (Nat → Bool) → List Value → World → Prop} (hn : ds.Nodup) (hs : ∀ x ∈ ds, x < a.tmps.size) : ∀ {l : List Oper} {k : Nat}, StepAll2 P ops Q a ds J k l → StepAll P ops Q a ds (fun L vs w => vs.length = ds.length ∧ J L vs w) k l
  | [], _, _ => trivial
  | _ :: _, _, h => ⟨fun L vs w hJ hL hd K' hK => h.1 (puts a ds vs) L vs w (fun p d v h1 h2 => puts_in ds a vs p d v hn hs h1 h2) (fun t ht => puts_out ds a vs t ht) hJ.2 hL hd K'
      (fun p d v w' h1 h2 => by
        rw [puts_put ds a vs p d v hn h1 hJ.1]
        exact hK _ _ ⟨by rw [List.length_set]; exact hJ.1, h2⟩)
      (fun w' h2 => hK _ _ ⟨hJ.1, h2⟩), h.2.to hn hs⟩
theorem wp_region_inv2 {P : Program} {id : Nat} {l : List Oper} {Q : Exit → Act → World → Prop} {a : Act} {w : World} (hm : P.follows .mixedOrders = true) (ds : List Nat) (J : (Nat → Bool) → List Value → World → Prop)
    (hdag : dagL 0 l = true) (hn : ds.Nodup) (hs : ∀ x ∈ ds, x < a.tmps.size) (h0 : J (fun _ => false) (slotsOf a ds) w.drew) (hstep : StepAll2 P l.toArray Q a ds J 0 l) (hend : ∀ L vs w', (∀ i, i < l.length → L i = true) → J L vs w' → Q .normal (puts a ds vs) w') :
    (Code.region id l.toArray true).wp P Q a w :=
  wp_region_inv hm ds (fun L vs w => vs.length = ds.length ∧ J L vs w) hdag ⟨by simp [slotsOf], h0⟩ (hstep.to hn hs) (fun L vs w' hl hJ => hend L vs w' hl hJ.2)

end Go.Proofs.YtjlcdpablnnplaaDoor

/-
  Layer 9: two rows of an object changed in one statement, in whatever order.
-/
namespace Go.Proofs.YtjlcdpablnnplaaDoor
set_option maxRecDepth 100000
open Go.RowKit Flo

theorem evD {A : Act} {t : Nat} {v : Value} (h : A.eval (.tmp t) = v) : A.tmps[t]?.getD undef = v := by
  rw [← h]
  show _ = A.tmps.getD t undef
  simp
theorem lmono {L : Nat → Bool} {i j : Nat} (h : L j = true) : Later L i j = true := by
  unfold Later
  split
  · rfl
  · exact h
/-- An object in the box xb, its rows of keys and values in blocks of their own, not below B, apart. -/
structure Tw (B : Nat) (w : World) (xb : Nat) (rom : Om) (sv : Value) (ks vs : List V4) (r1 r2 : Value) : Prop where
  bo : Bo w xb ⟨rom, r1, r2, sv⟩
  o1 : w.ownsRow B 35 4 r1 ks.length (vC ks)
  o2 : w.ownsRow B 35 4 r2 vs.length (vC vs)
  ap : ∀ g, r1.ownBlock = some g → r2.ownBlock ≠ some g
  lt : xb < B
  le : B ≤ w.heap.size

/-- What holds in the midst of it: what is in the box, what is as it was, and what of each row is done, in blocks of its own. -/
structure WR (B : Nat) (W w : World) (xb : Nat) (rom : Om) (kv vv sv : Value) (sA sB : Bool) (n1 n2 : Value) (PA PB : (Nat → Prop) → World → Prop) : Prop where
  bo : Bo w xb ⟨rom, if sA = true then n1 else kv, if sB = true then n2 else vv, sv⟩
  low : Wx (fun k => k = xb ∨ B ≤ k) W w
  ex : ∃ XA XB : Nat → Prop, (∀ k, XA k → ¬ XB k) ∧ (∀ k, XA k ∨ XB k → B ≤ k ∧ k < w.heap.size) ∧ PA XA w ∧ PB XB w
/-- It speaks of blocks of X alone. -/
def Lcl (P : (Nat → Prop) → World → Prop) : Prop := ∀ (X X' : Nat → Prop) (w w' : World), P X w → (∀ k, X k → k < w.heap.size) → (∀ k, X k → w'.heap[k]? = w.heap[k]?) → (∀ k, X k → X' k) → P X' w'
theorem Wx.within {w w' : World} {X : Nat → Prop} (h : Wx X w w') {k : Nat} (hk : k < w.heap.size) (hx : ¬ X k) : w'.heap[k]? = w.heap[k]? := h.block k hk hx

theorem WR.stepA {B : Nat} {W w w' : World} {xb : Nat} {rom : Om} {kv vv sv : Value} {sA sB : Bool} {n1 n2 n1' : Value} {PA PB PA' : (Nat → Prop) → World → Prop} (h : WR B W w xb rom kv vv sv sA sB n1 n2 PA PB) (hxb : xb < B) (hB : B ≤ w.heap.size) (hA : sA = false) (lB : Lcl PB)
    (hs : ∀ X : Nat → Prop, PA X w → (∀ k, X k → B ≤ k ∧ k < w.heap.size) → Wx X w w' ∧ PA' (fun k => X k ∨ (w.heap.size ≤ k ∧ k < w'.heap.size)) w') : WR B W w' xb rom kv vv sv sA sB n1' n2 PA' PB := by
  obtain ⟨XA, XB, h1, h2, h3, h4⟩ := h.ex
  obtain ⟨hx, hp⟩ := hs XA h3 (fun k hk => h2 k (Or.inl hk))
  have hsz := hx.size
  have hbo : Bo w' xb ⟨rom, if sA = true then n1 else kv, if sB = true then n2 else vv, sv⟩ := h.bo.wx hx (fun c => by have := (h2 xb (Or.inl c)).1; omega)
  subst hA
  refine ⟨hbo, h.low.trans hx (fun k hk => Or.inl (Or.inr (h2 k (Or.inl hk)).1)), fun k => XA k ∨ (w.heap.size ≤ k ∧ k < w'.heap.size), XB, fun k hk hb => ?_, fun k hk => ?_, hp, ?_⟩
  · rcases hk with c | c
    · exact h1 k c hb
    · have := (h2 k (Or.inr hb)).2; omega
  · rcases hk with (c | c) | c
    · have := h2 k (Or.inl c); omega
    · omega
    · have := h2 k (Or.inr c); omega
  · exact lB XB XB w w' h4 (fun k hk => (h2 k (Or.inr hk)).2) (fun k hk => hx.block k (h2 k (Or.inr hk)).2 (fun c => h1 k c hk)) (fun _ c => c)
theorem WR.stepB {B : Nat} {W w w' : World} {xb : Nat} {rom : Om} {kv vv sv : Value} {sA sB : Bool} {n1 n2 n2' : Value} {PA PB PB' : (Nat → Prop) → World → Prop} (h : WR B W w xb rom kv vv sv sA sB n1 n2 PA PB) (hxb : xb < B) (hB : B ≤ w.heap.size) (hA : sB = false) (lA : Lcl PA)
    (hs : ∀ X : Nat → Prop, PB X w → (∀ k, X k → B ≤ k ∧ k < w.heap.size) → Wx X w w' ∧ PB' (fun k => X k ∨ (w.heap.size ≤ k ∧ k < w'.heap.size)) w') : WR B W w' xb rom kv vv sv sA sB n1 n2' PA PB' := by
  obtain ⟨XA, XB, h1, h2, h3, h4⟩ := h.ex
  obtain ⟨hx, hp⟩ := hs XB h4 (fun k hk => h2 k (Or.inr hk))
  have hsz := hx.size
  have hbo : Bo w' xb ⟨rom, if sA = true then n1 else kv, if sB = true then n2 else vv, sv⟩ := h.bo.wx hx (fun c => by have := (h2 xb (Or.inr c)).1; omega)
  subst hA
  refine ⟨hbo, h.low.trans hx (fun k hk => Or.inl (Or.inr (h2 k (Or.inr hk)).1)), XA, fun k => XB k ∨ (w.heap.size ≤ k ∧ k < w'.heap.size), fun k hk hb => ?_, fun k hk => ?_, ?_, hp⟩
  · rcases hb with c | c
    · exact h1 k hk c
    · have := (h2 k (Or.inl hk)).2; omega
  · rcases hk with c | (c | c)
    · have := h2 k (Or.inl c); omega
    · have := h2 k (Or.inr c); omega
    · omega
  · exact lA XA XA w w' h3 (fun k hk => (h2 k (Or.inl hk)).2) (fun k hk => hx.block k (h2 k (Or.inl hk)).2 (fun c => h1 k hk c)) (fun _ c => c)
theorem WR.storeA {B : Nat} {W w : World} {xb : Nat} {rom : Om} {kv vv sv : Value} {sB : Bool} {n1 n2 : Value} {PA PB : (Nat → Prop) → World → Prop} (h : WR B W w xb rom kv vv sv false sB n1 n2 PA PB) (hxb : xb < B) (lA : Lcl PA) (lB : Lcl PB) : WR B W (w.setCell ⟨xb, 1, none⟩ n1) xb rom kv vv sv true sB n1 n2 PA PB := by
  obtain ⟨XA, XB, h1, h2, h3, h4⟩ := h.ex
  have hx : Wx (fun k => k = xb) w (w.setCell ⟨xb, 1, none⟩ n1) := Wx.set w 1 n1 rfl
  have hn : ∀ k, XA k ∨ XB k → ¬ k = xb := fun k hk e => by have := (h2 k hk).1; omega
  refine ⟨?_, h.low.trans hx (fun k hk => Or.inl (Or.inl hk)), XA, XB, h1, fun k hk => ⟨(h2 k hk).1, by have := (h2 k hk).2; rw [World.size_setCell]; exact this⟩, ?_, ?_⟩
  · have := h.bo.sets (r' := ⟨rom, n1, if sB = true then n2 else vv, sv⟩) [(1, n1)] rfl
    exact this
  · exact lA XA XA w _ h3 (fun k hk => (h2 k (Or.inl hk)).2) (fun k hk => hx.block k (h2 k (Or.inl hk)).2 (hn k (Or.inl hk))) (fun _ c => c)
  · exact lB XB XB w _ h4 (fun k hk => (h2 k (Or.inr hk)).2) (fun k hk => hx.block k (h2 k (Or.inr hk)).2 (hn k (Or.inr hk))) (fun _ c => c)
theorem WR.storeB {B : Nat} {W w : World} {xb : Nat} {rom : Om} {kv vv sv : Value} {sA : Bool} {n1 n2 : Value} {PA PB : (Nat → Prop) → World → Prop} (h : WR B W w xb rom kv vv sv sA false n1 n2 PA PB) (hxb : xb < B) (lA : Lcl PA) (lB : Lcl PB) : WR B W (w.setCell ⟨xb, 2, none⟩ n2) xb rom kv vv sv sA true n1 n2 PA PB := by
  obtain ⟨XA, XB, h1, h2, h3, h4⟩ := h.ex
  have hx : Wx (fun k => k = xb) w (w.setCell ⟨xb, 2, none⟩ n2) := Wx.set w 2 n2 rfl
  have hn : ∀ k, XA k ∨ XB k → ¬ k = xb := fun k hk e => by have := (h2 k hk).1; omega
  refine ⟨?_, h.low.trans hx (fun k hk => Or.inl (Or.inl hk)), XA, XB, h1, fun k hk => ⟨(h2 k hk).1, by have := (h2 k hk).2; rw [World.size_setCell]; exact this⟩, ?_, ?_⟩
  · have := h.bo.sets (r' := ⟨rom, if sA = true then n1 else kv, n2, sv⟩) [(2, n2)] rfl
    exact this
  · exact lA XA XA w _ h3 (fun k hk => (h2 k (Or.inl hk)).2) (fun k hk => hx.block k (h2 k (Or.inl hk)).2 (hn k (Or.inl hk))) (fun _ c => c)
  · exact lB XB XB w _ h4 (fun k hk => (h2 k (Or.inr hk)).2) (fun k hk => hx.block k (h2 k (Or.inr hk)).2 (hn k (Or.inr hk))) (fun _ c => c)

/-- A row in blocks of X. -/
def RowIn (B : Nat) (r : Value) (l : List V4) (X : Nat → Prop) (w : World) : Prop := w.ownsRow B 35 4 r l.length (vC l) ∧ ∀ g, r.ownBlock = some g → X g
theorem RowIn.lcl (B : Nat) (r : Value) (l : List V4) : Lcl (RowIn B r l) := fun _ _ _ _ h _ hb hX => ⟨rowStay h.1 (fun g hg => hb g (h.2 g hg)), fun g hg => hX g (h.2 g hg)⟩

/-! ### a copy: an empty row, then all elements laid behind it -/
def P9 (B : Nat) (l : List V4) (a0 a1 : Bool) (e r : Value) (X : Nat → Prop) (w : World) : Prop :=
  (a0 = true → a1 = false → ∃ g, e = .slice (some ⟨g, 0, none⟩) 0 0 ∧ RowIn B e [] X w) ∧ (a1 = true → (∃ a c, r = .slice a l.length c) ∧ RowIn B r l X w)
theorem P9.lcl (B : Nat) (l : List V4) (a0 a1 : Bool) (e r : Value) : Lcl (P9 B l a0 a1 e r) := fun X X' w w' h hl hb hX =>
  ⟨fun h0 h1 => by
    obtain ⟨g, hg, hr⟩ := h.1 h0 h1
    exact ⟨g, hg, RowIn.lcl B e [] X X' w w' hr hl hb hX⟩, fun h1 => ⟨(h.2 h1).1, RowIn.lcl B r l X X' w w' (h.2 h1).2 hl hb hX⟩⟩
theorem P9.bs {B : Nat} {l : List V4} {r : Value} {w : World} {X : Nat → Prop} (hB : B ≤ w.heap.size) :
    Wx X w (w.alloc (.cells #[] 35)) ∧ P9 B l true false (.slice (some ⟨w.heap.size, 0, none⟩) 0 0) r (fun k => X k ∨ (w.heap.size ≤ k ∧ k < (w.alloc (.cells #[] 35)).heap.size)) (w.alloc (.cells #[] 35)) := by
  refine ⟨Wx.of_below X ((Below.refl _ _).alloc (Nat.le_refl _) _), fun _ _ => ⟨_, rfl, World.ownsRow_lit (base := B) (e := 35) (size := 4) w #[] 0 hB (by decide) rfl, fun g hg => ?_⟩, fun c => by cases c⟩
  have e : w.heap.size = g := by simpa [Value.ownBlock] using hg
  exact Or.inr ⟨by omega, by simp; omega⟩
theorem P9.app {B : Nat} {l : List V4} {e : Value} {w w' : World} {X : Nat → Prop} {a : Option Addr} {c : Nat} (h : RowIn B e [] X w) (hown : w'.ownsRow B 35 4 (.slice a l.length c) l.length (vC l)) (hg : w.grownBy w' e.ownBlock) (hq : (Value.slice a l.length c).ownBlock = e.ownBlock ∨ (Value.slice a l.length c).ownBlock = some w.heap.size) :
    Wx X w w' ∧ P9 B l true true e (.slice a l.length c) (fun k => X k ∨ (w.heap.size ≤ k ∧ k < w'.heap.size)) w' := by
  refine ⟨⟨hg.os, hg.tape, hg.output, hg.size, fun k hk hx => hg.block k hk (fun q => hx (h.2 k q.symm))⟩, fun _ q => by (cases q), fun _ => ⟨⟨a, c, rfl⟩, hown, fun g hgg => ?_⟩⟩
  have hl := World.ownsRow.lt hown g hgg
  rcases hq with q | q
  · exact Or.inl (h.2 g (by rw [← q]; exact hgg))
  · rw [hgg] at q
    injection q with q
    exact Or.inr ⟨by omega, hl.2⟩

end Go.Proofs.YtjlcdpablnnplaaDoor
