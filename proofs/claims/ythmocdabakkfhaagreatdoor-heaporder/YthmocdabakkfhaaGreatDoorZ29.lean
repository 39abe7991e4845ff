/-
  HpLand, HpLand2, HpLand3, HpRslotV, HpRget, HpLget
-/
import Derived.Test.YthmocdabakkfhaaGreatDoorZ28

/-
  Layer 9: the landed heap's Table, SetMeta, Mark, by lists.
-/
namespace Go.Proofs.YthmocdabakkfhaaGreatDoor
set_option maxRecDepth 100000
open Go.RowKit Flo

theorem ltable_any {w : World} {hb lim : Nat} {L : List Om} {Z : Nat → Prop} (h : LH w hb lim L Z) :
    Calls Tryz.prog 16 #[.pointer (some ⟨hb, 0, none⟩)] w fun e w' => e = .returned (.tuple #[.int .i64 (tableM lim L).1.1, .int .i64 (tableM lim L).1.2]) ∧ LP w hb lim (tableM lim L).2 Z w' := by
  obtain ⟨used, R, os, hv, rfl⟩ := h
  have hun : used = usedM (os.map Ob.om) := by rw [used_om]; exact hv.sum
  by_cases c : used < lim
  · have hm : tableM lim (os.map Ob.om) = ((((os.length + 1 : Nat) : Int), 0), os.map Ob.om ++ [⟨5, 0, 0, V0, [], [], []⟩]) := by unfold tableM; rw [← hun, if_pos c, List.length_map]
    rw [hm]
    refine (table_hv hv c).mono ?_
    rintro e w' ⟨rfl, R', Z', h1, h2, h3⟩
    exact ⟨rfl, Z', ⟨_, R', _, h1, by rw [List.map_append]; rfl⟩, h2, h3⟩
  · have hm : tableM lim (os.map Ob.om) = ((0, 2), os.map Ob.om) := by unfold tableM; rw [← hun, if_neg c]
    rw [hm]
    refine (table_full hv (by omega)).mono ?_
    rintro e w' ⟨rfl, hb1⟩
    exact ⟨rfl, LH.below ⟨used, R, os, hv, rfl⟩ hb1⟩

theorem lmeta_any {w : World} {hb lim : Nat} {L : List Om} {Z : Nat → Prop} (h : LH w hb lim L Z) (o : Int) (m : V4) (hN : U64 m.N) :
    Calls Tryz.prog 29 #[.pointer (some ⟨hb, 0, none⟩), .int .i64 o, .agg #[.int .i64 m.K, .int .u64 m.N, .string m.S, .int .i64 m.O]] w fun e w' => e = .returned (.int .i64 (metaM L o m).1) ∧ LP w hb lim (metaM L o m).2 Z w' := by
  obtain ⟨used, R, os, hv, rfl⟩ := h
  cases ht : tabM (os.map Ob.om) o with
  | none =>
    have hm : metaM (os.map Ob.om) o m = (5, os.map Ob.om) := by unfold metaM; rw [ht]
    rw [hm]
    refine (SetMeta_none hv o ((tabM_none hv).1 ht) m.K m.N m.S m.O).mono ?_
    rintro e w' ⟨rfl, hb1⟩
    exact ⟨rfl, LH.below ⟨used, R, os, hv, rfl⟩ hb1⟩
  | some y =>
    obtain ⟨i, tb, x, ho, hoi, hi, htb, rfl⟩ := tabM_some hv ht
    obtain ⟨k1, k2⟩ := SetMeta_of hv hi htb o ho m.K m.N m.S m.O hN (nK m.K) (nN m.K m.N) (nS m.K m.S) (nO m.K m.O) rfl rfl rfl rfl
    by_cases c : nK m.K ≠ 0 ∧ (nK m.K ≠ 5 ∨ tabM (os.map Ob.om) (nO m.K m.O) = none)
    · have hm : metaM (os.map Ob.om) o m = (1, os.map Ob.om) := by unfold metaM; rw [ht]; simp only; rw [if_pos c]
      rw [hm]
      refine (k1 c.1 (c.2.imp id (tabM_none hv).1)).mono ?_
      rintro e w' ⟨rfl, hb1⟩
      exact ⟨rfl, LH.below ⟨used, R, os, hv, rfl⟩ hb1⟩
    · have hm : metaM (os.map Ob.om) o m = (0, (os.map Ob.om).set i { x.om with M := norV m }) := by unfold metaM; rw [ht]; simp only; rw [if_neg c, hoi]
      rw [hm]
      refine (k2 ?_).mono ?_
      · by_cases d : nK m.K = 0
        · exact Or.inl d
        · right
          have h2 : ¬ (nK m.K ≠ 5 ∨ tabM (os.map Ob.om) (nO m.K m.O) = none) := fun q => c ⟨d, q⟩
          refine ⟨Decidable.byContradiction (fun q => h2 (Or.inl q)), fun q => h2 (Or.inr ((tabM_none hv).2 q))⟩
      · rintro e w' ⟨rfl, h1, h2⟩
        exact ⟨rfl, Z, ⟨used, R, _, h1, by rw [om_set]; rfl⟩, h2, fun _ c => Or.inl c⟩

theorem obC_flat (os : List Ob) : obC os = (os.map Ob.cells).flatten := by unfold obC; rw [List.flatMap_def]
/-- An object that is no table has another number. -/
theorem Hv.mark {w : World} {hb lim used i g cap : Nat} {R : Value} {os : List Ob} {Z : Nat → Prop} {x : Ob} (h : Hv w hb lim used R os Z) (hi : os[i]? = some x) (ht : x.tb = none) (hR : R = .slice (some ⟨g, 0, none⟩) os.length cap) (a : Int) :
    Hv (w.setCell ⟨g, i * 5 + 1, none⟩ (.int .i64 a)) hb lim used R (os.set i { x with a := a }) Z ∧ Wx Z w (w.setCell ⟨g, i * 5 + 1, none⟩ (.int .i64 a)) := by
  have hgb : R.ownBlock = some g := by rw [hR]; rfl
  have hgz := h.zr g hgb
  have k : Wx (fun j => j = g) w (w.setCell ⟨g, i * 5 + 1, none⟩ (.int .i64 a)) := Wx.set w _ _ rfl
  have kz : Wx Z w (w.setCell ⟨g, i * 5 + 1, none⟩ (.int .i64 a)) := k.more (fun j hj => Or.inl (by rw [hj]; exact hgz.1))
  have hng : ¬ hb = g := fun e => hgz.2 e.symm
  have hn1 : ¬ 1 = g := fun e => h.no1 (e ▸ hgz.1)
  have hil : i < os.length := by
    rcases Nat.lt_or_ge i os.length with c | c
    · exact c
    · rw [List.getElem?_eq_none c] at hi; cases hi
  have hgs : ∀ (j : Nat) p, (os.set i { x with a := a })[j]? = some p → (j = i ∧ p = { x with a := a }) ∨ (j ≠ i ∧ os[j]? = some p) := by
    intro j p hp
    rw [List.getElem?_set] at hp
    by_cases c : i = j
    · rw [if_pos c] at hp
      rw [if_pos (by omega)] at hp
      exact Or.inl ⟨c.symm, (Option.some.inj hp).symm⟩
    · rw [if_neg c] at hp
      exact Or.inr ⟨fun q => c q.symm, hp⟩
  have hptb : ∀ (j : Nat) p, os[j]? = some p → p.tb ≠ none → ∃ q, (os.set i { x with a := a })[j]? = some q ∧ q.tb ≠ none := by
    intro j p hp hne
    by_cases c : i = j
    · subst c
      rw [hi] at hp
      injection hp with hp
      subst hp
      exact absurd ht hne
    · exact ⟨p, by rw [List.getElem?_set, if_neg c]; exact hp, hne⟩
  refine ⟨⟨k.cell hng h.c0, k.cell hng h.c1, k.cell hng h.c2, fun o => (k.frozen (h.lt hb h.zh) hng).trans (h.hfree o), ?_, h.hl, h.hu, ?_, fun j p hp => ?_, fun j p hp => ?_, fun j hj => Nat.lt_of_lt_of_le (h.lt j hj) k.size, h.no1, h.zh, h.zr, fun j p hp => ?_, fun j l p q hp hq hjl => ?_, h.db.wx k hn1⟩, kz⟩
  · have hrow := h.row
    rw [hR] at hrow ⊢
    have h2 := (hrow.stored (i * 5 + 1) (.int .i64 a)).1
    rw [List.length_set]
    have e : obC (os.set i { x with a := a }) = (obC os).set (i * 5 + 1) (.int .i64 a) := by
      rw [obC_flat, obC_flat, List.map_set]
      have e2 : ({ x with a := a } : Ob).cells = x.cells.set 1 (.int .i64 a) := rfl
      rw [e2]
      exact flat_set (os.map Ob.cells) 5 i 1 x.cells (.int .i64 a) (fun c hc => by obtain ⟨y, _, rfl⟩ := List.mem_map.1 hc; rfl) (by rw [List.getElem?_map, hi]; rfl) (by omega)
    rw [e]
    exact h2
  · have := sum_set os i x { x with a := a } hi
    have hw : ({ x with a := a } : Ob).wt = x.wt := rfl
    have := h.sum
    omega
  · rcases hgs j p hp with ⟨_, rfl⟩ | ⟨_, hp⟩
    · have hv := (h.ob i x hi).wx k (fun y hy e => (h.zx i x hi y hy).2.2 (by rw [e]; exact hgb)) hn1
      refine ⟨fun tb e => ?_, fun _ => ?_⟩
      · have e2 : x.tb = some tb := e
        rw [ht] at e2; cases e2
      · exact hv.oth ht
    · exact (h.ob j p hp).wx k (fun y hy e => (h.zx j p hp y hy).2.2 (by rw [e]; exact hgb)) hn1
  · rcases hgs j p hp with ⟨_, rfl⟩ | ⟨_, hp⟩
    · rcases h.mt i x hi with c | ⟨c1, c2, q, c3, c4⟩
      · exact Or.inl c
      · exact Or.inr ⟨c1, c2, hptb _ q c3 c4⟩
    · rcases h.mt j p hp with c | ⟨c1, c2, q, c3, c4⟩
      · exact Or.inl c
      · exact Or.inr ⟨c1, c2, hptb _ q c3 c4⟩
  · rcases hgs j p hp with ⟨_, rfl⟩ | ⟨_, hp⟩
    · exact h.zx i x hi
    · exact h.zx j p hp
  · rcases hgs j p hp with ⟨e1, rfl⟩ | ⟨e1, hp1⟩
    · rcases hgs l q hq with ⟨e2, _⟩ | ⟨e2, hq1⟩
      · omega
      · exact h.xx i l x q hi hq1 (by omega)
    · rcases hgs l q hq with ⟨e2, rfl⟩ | ⟨e2, hq1⟩
      · exact h.xx j i p x hp1 hi (by omega)
      · exact h.xx j l p q hp1 hq1 hjl

set_option maxHeartbeats 1000000 in
theorem lmark_any {w : World} {hb lim : Nat} {L : List Om} {Z : Nat → Prop} (h : LH w hb lim L Z) (o a : Int) :
    Calls Tryz.prog 35 #[.pointer (some ⟨hb, 0, none⟩), .int .i64 o, .int .i64 a] w fun e w' => e = .returned (.int .i64 (markM L o a).1) ∧ LP w hb lim (markM L o a).2 Z w' := by
  obtain ⟨used, R, os, hv, rfl⟩ := h
  have hlen : os.length ≤ 1099511627776 := by have := sum_len os; have := hv.sum; have := hv.hu; have := hv.hl; omega
  have HLP : Hid (LP w hb lim (os.map Ob.om) Z w) := LH.below ⟨used, R, os, hv, rfl⟩ (Below.refl _ _)
  by_cases c : 1 ≤ o ∧ o ≤ os.length
  · obtain ⟨i, hoi⟩ : ∃ i : Nat, o = (i : Int) + 1 := ⟨(o - 1).toNat, by omega⟩
    have hil : i < os.length := by omega
    obtain ⟨x, hx⟩ : ∃ x, os[i]? = some x := ⟨os[i], List.getElem?_eq_getElem hil⟩
    obtain ⟨g, cap, hR⟩ : ∃ g cap, R = .slice (some ⟨g, 0, none⟩) os.length cap := by
      rcases rowForm hv.row with ⟨e, e0⟩ | ⟨g, cap, e, _⟩
      · omega
      · exact ⟨g, cap, e⟩
    have hat : atM (os.map Ob.om) o = some x.om := by rw [atM_map, if_pos c, show (o - 1).toNat = i by omega, hx]; rfl
    have HF := hide_p (hfind_any hb g os.length cap (some ⟨g, 0, none⟩) o w (by rw [hv.c2, hR]) (fun _ => rfl) hlen)
    rw [show objAt g os.length o = some ⟨g, i * 5, none⟩ by unfold objAt; rw [if_pos c]; congr 2; omega] at HF
    have hrow := hv.row
    rw [hR] at hrow
    have hc : ∀ j, j < 5 → w.cell? ⟨g, i * 5 + j, none⟩ = x.cells[j]? := fun j hj => by rw [hrow.cellAt (i * 5 + j) (by omega), obC_at os i x hx j hj]
    have c4 : w.cell? ⟨g, i * 5 + 4, none⟩ = some (.pointer x.ptr) := hc 4 (by omega)
    have c1 : w.cell? ⟨g, i * 5 + 1, none⟩ = some (.int .i64 x.a) := hc 1 (by omega)
    have hfr : w.frozen? ⟨g, i * 5 + 1, none⟩ = false := owns_free hrow _
    cases htb : x.tb with
    | some tb =>
      have hk5 : x.om.k = 5 := ((hv.ob i x hx).tab tb htb).1.1
      have hm : markM (os.map Ob.om) o a = (5, os.map Ob.om) := by unfold markM; rw [hat]; simp only; rw [if_pos hk5]
      rw [hm]
      rw [show x.ptr = some ⟨tb, 0, none⟩ by unfold Ob.ptr; rw [htb]; rfl] at c4
      clear hv hx hat hR hrow hc hm c hk5 htb hoi c1 hfr
      go_enter Tryz.func35, Tryz.ntmps35
      go_wp2_with fail
      refine HF.out.mono ?_
      rintro e w' ⟨rfl, rfl⟩
      clear HF
      go_wp2
      go_ret
      exact ⟨rfl, HLP.out⟩
    | none =>
      have hk5 : ¬ x.om.k = 5 := ((hv.ob i x hx).oth htb).1.2
      have hm : markM (os.map Ob.om) o a = (0, (os.map Ob.om).set i { x.om with a := a }) := by unfold markM; rw [hat]; simp only; rw [if_neg hk5, show (o - 1).toNat = i by omega]
      rw [hm]
      rw [show x.ptr = none by unfold Ob.ptr; rw [htb]; rfl] at c4
      obtain ⟨k1, k2⟩ := hv.mark hx htb hR a
      have HQ : Hid (LP w hb lim ((os.map Ob.om).set i { x.om with a := a }) Z (w.setCell ⟨g, i * 5 + 1, none⟩ (.int .i64 a))) := ⟨Z, ⟨used, R, _, k1, by rw [om_set]; rfl⟩, k2, fun _ c => Or.inl c⟩
      clear hv hx hat hR hrow hc hm c hk5 htb hoi k1 k2 HLP
      go_enter Tryz.func35, Tryz.ntmps35
      go_wp2_with fail
      refine HF.out.mono ?_
      rintro e w' ⟨rfl, hw'⟩
      subst hw'
      clear HF
      go_wp2
      go_ret
      exact ⟨rfl, HQ.out⟩
  · have hm : markM (os.map Ob.om) o a = (5, os.map Ob.om) := by unfold markM; rw [atM_map, if_neg c]
    rw [hm]
    obtain ⟨ob, a0, n0, hc2, ha0⟩ : ∃ ob a0 cap, w.cell? ⟨hb, 2, none⟩ = some (.slice a0 os.length cap) ∧ (0 < os.length → a0 = some ⟨ob, 0, none⟩) := by
      rcases rowForm hv.row with ⟨e, e0⟩ | ⟨g, cap, e, _⟩
      · exact ⟨0, none, 0, by rw [hv.c2, e, e0], fun q => by omega⟩
      · exact ⟨g, _, cap, by rw [hv.c2, e], fun _ => rfl⟩
    have HF := hide_p (hfind_any hb ob os.length n0 a0 o w hc2 ha0 hlen)
    rw [show objAt ob os.length o = none by unfold objAt; rw [if_neg c]] at HF
    clear hv hm c hc2 ha0
    go_enter Tryz.func35, Tryz.ntmps35
    go_wp2_with fail
    refine HF.out.mono ?_
    rintro e w' ⟨rfl, rfl⟩
    clear HF
    go_wp2
    go_ret
    exact ⟨rfl, HLP.out⟩

end Go.Proofs.YthmocdabakkfhaaGreatDoor

/-
  Layer 9: the landed heap's slots.
-/
namespace Go.Proofs.YthmocdabakkfhaaGreatDoor
set_option maxRecDepth 100000
open Go.RowKit Flo

/-- Where a slot lies. -/
def slotP (os : List Ob) (o i : Int) : Option Addr := if 1 ≤ o ∧ o ≤ os.length then (os[(o - 1).toNat]?).bind fun x => if 0 ≤ i ∧ i < x.sl.length then some ⟨x.sb, i.toNat * 4, none⟩ else none else none

set_option maxHeartbeats 1000000 in
theorem hslot_any {w : World} {hb lim used : Nat} {R : Value} {os : List Ob} {Z : Nat → Prop} (hv : Hv w hb lim used R os Z) (o i : Int) :
    Calls Tryz.prog 65 #[.pointer (some ⟨hb, 0, none⟩), .int .i64 o, .int .i64 i] w fun e w' => e = .returned (.pointer (slotP os o i)) ∧ w' = w := by
  have hlen : os.length ≤ 1099511627776 := by have := sum_len os; have := hv.sum; have := hv.hu; have := hv.hl; omega
  by_cases c : 1 ≤ o ∧ o ≤ os.length
  · obtain ⟨p, hoi⟩ : ∃ p : Nat, o = (p : Int) + 1 := ⟨(o - 1).toNat, by omega⟩
    have hil : p < os.length := by omega
    obtain ⟨x, hx⟩ : ∃ x, os[p]? = some x := ⟨os[p], List.getElem?_eq_getElem hil⟩
    obtain ⟨g, cap, hR⟩ : ∃ g cap, R = .slice (some ⟨g, 0, none⟩) os.length cap := by
      rcases rowForm hv.row with ⟨e, e0⟩ | ⟨g, cap, e, _⟩
      · omega
      · exact ⟨g, cap, e⟩
    have HF := hide_p (hfind_any hb g os.length cap (some ⟨g, 0, none⟩) o w (by rw [hv.c2, hR]) (fun _ => rfl) hlen)
    rw [show objAt g os.length o = some ⟨g, p * 5, none⟩ by unfold objAt; rw [if_pos c]; congr 2; omega] at HF
    have hrow := hv.row
    rw [hR] at hrow
    have c3 : w.cell? ⟨g, p * 5 + 3, none⟩ = some x.slV := by rw [hrow.cellAt (p * 5 + 3) (by omega), obC_at os p x hx 3 (by omega)]; rfl
    obtain ⟨sa, sc, hsl, hsa⟩ : ∃ sa sc, x.slV = .slice sa x.sl.length sc ∧ (0 < x.sl.length → sa = some ⟨x.sb, 0, none⟩) := by
      unfold Ob.slV
      cases ht : x.tb with
      | some t => exact ⟨none, 0, by have := (((hv.ob p x hx).tab t ht).1.2.2.2); simp [this], fun q => by have := (((hv.ob p x hx).tab t ht).1.2.2.2); rw [this] at q; simp at q⟩
      | none => exact ⟨_, _, rfl, fun _ => rfl⟩
    rw [hsl] at c3
    have hsl2 : x.sl.length ≤ 1048576 := by have := sum_ge os p x hx; have := hv.sum; have := hv.hu; have := hv.hl; have hw : x.wt = 1 + x.es.length + x.sl.length := rfl; omega
    have hres : slotP os o i = if 0 ≤ i ∧ i < x.sl.length then some ⟨x.sb, i.toNat * 4, none⟩ else none := by unfold slotP; rw [if_pos c, show (o - 1).toNat = p by omega, hx]; rfl
    rw [hres]
    by_cases d : 0 ≤ i ∧ i < x.sl.length
    · rw [if_pos d]
      obtain ⟨q, hq⟩ : ∃ q : Nat, i = (q : Int) := ⟨i.toNat, by omega⟩
      have hql : q < x.sl.length := by omega
      rw [hsa (by omega)] at c3
      rw [show i.toNat = q by omega]
      subst hq
      have d1 : ¬ ((q : Int) < 0) := by omega
      have d2 : ¬ ((q : Int) ≥ (x.sl.length : Int)) := by omega
      have d3 : (q : Int) < (x.sl.length : Int) := by omega
      clear hv hx hR hrow hres c hoi hsl hsa d
      generalize x.sl.length = n at *
      generalize x.sb = sb at *
      go_enter Tryz.func65, Tryz.ntmps65
      go_wp2_with fail
      refine HF.out.mono ?_
      rintro e w' ⟨rfl, rfl⟩
      clear HF
      go_wp2
      go_ret
      exact ⟨rfl, rfl⟩
    · rw [if_neg d]
      clear hsa
      by_cases d1 : i < 0
      · clear hv hx hR hrow hres c hoi hsl
        generalize x.sl.length = n at *
        go_enter Tryz.func65, Tryz.ntmps65
        go_wp2_with fail
        refine HF.out.mono ?_
        rintro e w' ⟨rfl, rfl⟩
        clear HF
        go_wp2
        go_ret
        exact ⟨rfl, rfl⟩
      · have d2 : i ≥ (x.sl.length : Int) := by omega
        clear hv hx hR hrow hres c hoi hsl
        generalize x.sl.length = n at *
        go_enter Tryz.func65, Tryz.ntmps65
        go_wp2_with fail
        refine HF.out.mono ?_
        rintro e w' ⟨rfl, rfl⟩
        clear HF
        go_wp2
        go_ret
        exact ⟨rfl, rfl⟩
  · rw [show slotP os o i = none by unfold slotP; rw [if_neg c]]
    obtain ⟨ob, a0, n0, hc2, ha0⟩ : ∃ ob a0 cap, w.cell? ⟨hb, 2, none⟩ = some (.slice a0 os.length cap) ∧ (0 < os.length → a0 = some ⟨ob, 0, none⟩) := by
      rcases rowForm hv.row with ⟨e, e0⟩ | ⟨g, cap, e, _⟩
      · exact ⟨0, none, 0, by rw [hv.c2, e, e0], fun q => by omega⟩
      · exact ⟨g, _, cap, by rw [hv.c2, e], fun _ => rfl⟩
    have HF := hide_p (hfind_any hb ob os.length n0 a0 o w hc2 ha0 hlen)
    rw [show objAt ob os.length o = none by unfold objAt; rw [if_neg c]] at HF
    clear hv c hc2 ha0
    go_enter Tryz.func65, Tryz.ntmps65
    go_wp2_with fail
    refine HF.out.mono ?_
    rintro e w' ⟨rfl, rfl⟩
    clear HF
    go_wp2
    go_ret
    exact ⟨rfl, rfl⟩

theorem frozen_stores {g o b : Nat} : ∀ {us : List (Nat × Value)} {w : World} (j : Nat), (stores w g o us).frozen? ⟨b, j, none⟩ = w.frozen? ⟨b, j, none⟩
  | [], _, _ => rfl
  | _ :: us, _, j => (frozen_stores (us := us) j).trans (World.frozen?_setCell _ _ _ _)
/-- A slot has another value. -/
theorem Hv.slot {w : World} {hb lim used i p : Nat} {R : Value} {os : List Ob} {Z : Nat → Prop} {x : Ob} (h : Hv w hb lim used R os Z) (hi : os[i]? = some x) (hp : p < x.sl.length) (v : V4) :
    (∃ u, At4 w x.sb (p * 4) u) ∧ (∀ j, w.frozen? ⟨x.sb, j, none⟩ = false) ∧ LP w hb lim ((os.map Ob.om).set i { x.om with sl := x.sl.set p v }) Z (stores w x.sb (p * 4) [(0, .int .i64 v.K), (1, .int .u64 v.N), (2, .string v.S), (3, .int .i64 v.O)]) := by
  have ht : x.tb = none := by
    cases ht : x.tb with
    | none => rfl
    | some t => have := (((h.ob i x hi).tab t ht).1.2.2.2); rw [this] at hp; simp at hp
  obtain ⟨h1, h2, h3, h4, h5⟩ := (h.ob i x hi).oth ht
  have hat : ∀ (q : Nat) u, x.sl[q]? = some u → At4 w x.sb (q * 4) u := fun q u hu => by
    have := h5 q u hu
    rw [Nat.mul_comm 4 q] at this
    exact this
  obtain ⟨u, hu⟩ : ∃ u, x.sl[p]? = some u := ⟨x.sl[p], List.getElem?_eq_getElem hp⟩
  refine ⟨⟨u, hat p u hu⟩, h4, ?_⟩
  have k : Wx (fun j => j = x.sb) w (stores w x.sb (p * 4) [(0, .int .i64 v.K), (1, .int .u64 v.N), (2, .string v.S), (3, .int .i64 v.O)]) := wx_stores _ _
  have hs : (stores w x.sb (p * 4) [(0, .int .i64 v.K), (1, .int .u64 v.N), (2, .string v.S), (3, .int .i64 v.O)]).heap.size = w.heap.size := size_stores _ _
  have hcell : ∀ o u0, w.cell? ⟨x.sb, o, none⟩ = some u0 → o ≠ p * 4 → o ≠ p * 4 + 1 → o ≠ p * 4 + 2 → o ≠ p * 4 + 3 → (stores w x.sb (p * 4) [(0, .int .i64 v.K), (1, .int .u64 v.N), (2, .string v.S), (3, .int .i64 v.O)]).cell? ⟨x.sb, o, none⟩ = some u0 := fun o u0 hc n0 n1 n2 n3 => by
    show ((((w.setCell ⟨x.sb, p * 4, none⟩ (.int .i64 v.K)).setCell ⟨x.sb, p * 4 + 1, none⟩ (.int .u64 v.N)).setCell ⟨x.sb, p * 4 + 2, none⟩ (.string v.S)).setCell ⟨x.sb, p * 4 + 3, none⟩ (.int .i64 v.O)).cell? ⟨x.sb, o, none⟩ = some u0
    rw [World.cell?_setCell_other _ _ _ _ (by simp <;> omega), World.cell?_setCell_other _ _ _ _ (by simp <;> omega), World.cell?_setCell_other _ _ _ _ (by simp <;> omega), World.cell?_setCell_other _ _ _ _ (by simp <;> omega)]
    exact hc
  have hnew : At4 (stores w x.sb (p * 4) [(0, .int .i64 v.K), (1, .int .u64 v.N), (2, .string v.S), (3, .int .i64 v.O)]) x.sb (p * 4) v := by
    have a := hat p u hu
    show At4 ((((w.setCell ⟨x.sb, p * 4, none⟩ (.int .i64 v.K)).setCell ⟨x.sb, p * 4 + 1, none⟩ (.int .u64 v.N)).setCell ⟨x.sb, p * 4 + 2, none⟩ (.string v.S)).setCell ⟨x.sb, p * 4 + 3, none⟩ (.int .i64 v.O)) x.sb (p * 4) v
    refine ⟨?_, ?_, ?_, ?_⟩
    · rw [World.cell?_setCell_other _ _ _ _ (by simp), World.cell?_setCell_other _ _ _ _ (by simp), World.cell?_setCell_other _ _ _ _ (by simp)]
      exact World.cell?_setCell_same _ _ _ a.c0
    · rw [World.cell?_setCell_other _ _ _ _ (by simp), World.cell?_setCell_other _ _ _ _ (by simp)]
      exact World.cell?_setCell_same _ _ _ (by rw [World.cell?_setCell_other _ _ _ _ (by simp)]; exact a.c1)
    · rw [World.cell?_setCell_other _ _ _ _ (by simp)]
      exact World.cell?_setCell_same _ _ _ (by rw [World.cell?_setCell_other _ _ _ _ (by simp), World.cell?_setCell_other _ _ _ _ (by simp)]; exact a.c2)
    · exact World.cell?_setCell_same _ _ _ (by rw [World.cell?_setCell_other _ _ _ _ (by simp), World.cell?_setCell_other _ _ _ _ (by simp), World.cell?_setCell_other _ _ _ _ (by simp)]; exact a.c3)
  have key := h.put0 (o' := { x with sl := x.sl.set p v }) hi k (fun j hj => Or.inl ((h2 j).2 hj)) ?_ ⟨fun t e1 => ?_, fun _ => ⟨h1, h2, by rw [hs]; exact h3, fun j => (frozen_stores j).trans (h4 j), fun q u' hq => ?_⟩⟩ (fun j hj => Or.inl hj) (fun j hj => by rw [hs]; have := (h2 j).1 hj; omega) rfl (h.mt i x hi) (by simp [Ob.wt])
  · obtain ⟨k1, k2⟩ := key
    refine ⟨_, ⟨_, _, _, k1, by rw [om_set]; rfl⟩, k2, fun j hj => ?_⟩
    rcases hj with c | c
    · exact Or.inl c
    · exact Or.inr c.1
  · unfold Ob.cells Ob.slV
    simp [ht, Ob.ptr]
  · have e2 : x.tb = some t := e1
    rw [ht] at e2; cases e2
  · have hq2 : (x.sl.set p v)[q]? = some u' := hq
    show At4 _ x.sb (4 * q) u'
    rw [Nat.mul_comm 4 q]
    by_cases c : p = q
    · subst c
      rw [List.getElem?_set_self hp] at hq2
      injection hq2 with hq2
      subst hq2
      exact hnew
    · rw [List.getElem?_set_ne c] at hq2
      have a := hat q u' hq2
      exact ⟨hcell _ _ a.c0 (by omega) (by omega) (by omega) (by omega), hcell _ _ a.c1 (by omega) (by omega) (by omega) (by omega), hcell _ _ a.c2 (by omega) (by omega) (by omega) (by omega), hcell _ _ a.c3 (by omega) (by omega) (by omega) (by omega)⟩

end Go.Proofs.YthmocdabakkfhaaGreatDoor

/-
  Layer 9: the landed heap's SetSlot by lists.
-/
namespace Go.Proofs.YthmocdabakkfhaaGreatDoor
set_option maxRecDepth 100000
open Go.RowKit Flo

theorem LP.then {w w1 w2 : World} {hb lim : Nat} {L : List Om} {Z : Nat → Prop} (h : LP w hb lim L Z w1) (k : Below w1.heap.size w1 w2) : LP w hb lim L Z w2 := by
  obtain ⟨Z', ⟨used, R, os, h1, h2⟩, h3, h4⟩ := h
  exact ⟨Z', ⟨used, R, os, h1.below k, h2⟩, h3.trans (Wx.of_below Z k) (fun _ c => Or.inl c), h4⟩

set_option maxHeartbeats 1000000 in
theorem lslot_any {w : World} {hb lim : Nat} {L : List Om} {Z : Nat → Prop} (h : LH w hb lim L Z) (o i : Int) (v : V4) (hN : U64 v.N) :
    Calls Tryz.prog 33 #[.pointer (some ⟨hb, 0, none⟩), .int .i64 o, .int .i64 i, .agg #[.int .i64 v.K, .int .u64 v.N, .string v.S, .int .i64 v.O]] w fun e w' => e = .returned (.int .i64 (slotM L o i v).1) ∧ LP w hb lim (slotM L o i v).2 Z w' := by
  obtain ⟨used, R, os, hv, rfl⟩ := h
  have HB0 : Hid (Below w.heap.size w (w.alloc (.cells #[.int .i64 v.K, .int .u64 v.N, .string v.S, .int .i64 v.O] 37))) := (Below.refl _ _).alloc (Nat.le_refl _) _
  have HS := hide_p (hslot_any (hv.below HB0.out) o i)
  have HLP : Hid (LP w hb lim (os.map Ob.om) Z (w.alloc (.cells #[.int .i64 v.K, .int .u64 v.N, .string v.S, .int .i64 v.O] 37))) := LH.below ⟨used, R, os, hv, rfl⟩ HB0.out
  by_cases c : ∃ (p q : Nat) (x : Ob), o = (p : Int) + 1 ∧ os[p]? = some x ∧ i = (q : Int) ∧ q < x.sl.length
  · obtain ⟨p, q, x, ho, hx, hi, hq⟩ := c
    have hpl : p < os.length := by
      rcases Nat.lt_or_ge p os.length with c | c
      · exact c
      · rw [List.getElem?_eq_none c] at hx; cases hx
    have hat : atM (os.map Ob.om) o = some x.om := by rw [atM_map, if_pos (by omega), show (o - 1).toNat = p by omega, hx]; rfl
    have hm : slotM (os.map Ob.om) o i v = (0, (os.map Ob.om).set p { x.om with sl := x.sl.set q (slV v) }) := by
      unfold slotM
      rw [hat]
      simp only
      rw [if_pos (by show 0 ≤ i ∧ i < (x.sl.length : Int); omega), show (o - 1).toNat = p by omega, show i.toNat = q by omega]
      rfl
    rw [hm]
    rw [show slotP os o i = some ⟨x.sb, q * 4, none⟩ by unfold slotP; rw [if_pos (by omega), show (o - 1).toNat = p by omega, hx]; show (if 0 ≤ i ∧ i < (x.sl.length : Int) then some (⟨x.sb, i.toNat * 4, none⟩ : Addr) else none) = _; rw [if_pos (by omega), show i.toNat = q by omega]] at HS
    have hsb : x.sb < w.heap.size := by
      cases htb : x.tb with
      | none => exact ((hv.ob p x hx).oth htb).2.2.1
      | some t => have := (((hv.ob p x hx).tab t htb).1.2.2.2); rw [this] at hq; simp at hq
    have HQ : Hid (∀ w1 u, Below w.heap.size w w1 → (∃ y, At4 w1 x.sb (q * 4) y) ∧ (∀ j, w1.frozen? ⟨x.sb, j, none⟩ = false) ∧ LP w hb lim ((os.map Ob.om).set p { x.om with sl := x.sl.set q u }) Z ((((w1.setCell ⟨x.sb, q * 4, none⟩ (.int .i64 u.K)).setCell ⟨x.sb, q * 4 + 1, none⟩ (.int .u64 u.N)).setCell ⟨x.sb, q * 4 + 2, none⟩ (.string u.S)).setCell ⟨x.sb, q * 4 + 3, none⟩ (.int .i64 u.O))) := fun w1 u hb1 => by
      obtain ⟨k1, k2, k3⟩ := (hv.below hb1).slot hx hq u
      exact ⟨k1, k2, LP.from hb1 k3⟩
    clear hv hm hat hx ho hi hq hpl HLP
    generalize x.sb = sb at *
    by_cases h9 : v.K = 9
    · have hsl : slV v = v := by unfold slV; rw [if_pos h9]
      rw [hsl]
      obtain ⟨vK, vN, vS, vO⟩ := v
      simp only at h9 HB0 HS hN
      subst h9
      simp only
      obtain ⟨⟨y, hy⟩, hf, hlp⟩ := HQ.out w ⟨9, vN, vS, vO⟩ (Below.refl _ _)
      have a0 := hy.c0
      have a1 := hy.c1
      have a2 := hy.c2
      have a3 := hy.c3
      have HL := hide_p (LP.then hlp ((Below.refl _ _).alloc (Nat.le_refl _) (.cells #[.int .i64 9, .int .u64 vN, .string vS, .int .i64 vO] 37)))
      have hne : sb ≠ w.heap.size := by omega
      clear hy hlp HQ hsl hN
      go_enter Tryz.func33, Tryz.ntmps33
      go_wp2_with fail
      refine HS.out.mono ?_
      rintro e w' ⟨rfl, hw'⟩
      subst hw'
      clear HS
      go_wp2
      go_ret
      exact ⟨rfl, HL.out⟩
    · have hsl : slV v = ⟨nK v.K, nN v.K v.N, nS v.K v.S, nO v.K v.O⟩ := by unfold slV; rw [if_neg h9]; rfl
      rw [hsl]
      obtain ⟨v', hv'⟩ : ∃ v' : V4, v' = ⟨nK v.K, nN v.K v.N, nS v.K v.S, nO v.K v.O⟩ := ⟨_, rfl⟩
      rw [← hv']
      have HN2 : Hid (∀ w, Calls Tryz.prog 22 #[.agg #[.int .i64 v.K, .int .u64 v.N, .string v.S, .int .i64 v.O]] w fun e w' => e = .returned (.agg #[.int .i64 v'.K, .int .u64 v'.N, .string v'.S, .int .i64 v'.O]) ∧ Below w.heap.size w w') := by rw [hv']; exact fun w => normal_any v.K v.N v.S v.O w hN
      clear hsl hv' hN
      go_enter Tryz.func33, Tryz.ntmps33
      go_wp2_with fail
      refine HS.out.mono ?_
      rintro e w' ⟨rfl, hw'⟩
      subst hw'
      clear HS
      go_wp2_with fail
      refine (HN2.out _).mono ?_
      rintro e w1 ⟨rfl, hb1⟩
      obtain ⟨p0, p1, p2, p3⟩ := keep4 (b := w.heap.size) (v0 := .int .i64 v.K) (v1 := .int .u64 v.N) (v2 := .string v.S) (v3 := .int .i64 v.O) ⟨by go_simp, by go_simp, by go_simp, by go_simp⟩ hb1
      have hf1 : ∀ k, w1.frozen? ⟨w.heap.size, k, none⟩ = false := fun k => (hb1.frozen (by simp)).trans (by go_simp)
      have HB1 : Hid (Below w.heap.size w w1) := HB0.out.trans (hb1.mono (by simp))
      have hsz1 := hb1.size
      simp at hsz1
      clear hb1 HN2 HB0
      go_upto_region 6 with fail
      obtain ⟨w5, hw5⟩ : ∃ w5, w5 = (((w1.setCell ⟨w.heap.size, 0, none⟩ (.int .i64 v'.K)).setCell ⟨w.heap.size, 1, none⟩ (.int .u64 v'.N)).setCell ⟨w.heap.size, 2, none⟩ (.string v'.S)).setCell ⟨w.heap.size, 3, none⟩ (.int .i64 v'.O) := ⟨_, rfl⟩
      have b0 : w5.cell? ⟨w.heap.size, 0, none⟩ = some (.int .i64 v'.K) := by rw [hw5]; go_simp
      have b1 : w5.cell? ⟨w.heap.size, 1, none⟩ = some (.int .u64 v'.N) := by rw [hw5]; go_simp
      have b2 : w5.cell? ⟨w.heap.size, 2, none⟩ = some (.string v'.S) := by rw [hw5]; go_simp
      have b3 : w5.cell? ⟨w.heap.size, 3, none⟩ = some (.int .i64 v'.O) := by rw [hw5]; go_simp
      have HB : Hid (Below w.heap.size w w5) := by rw [hw5]; exact set41 HB1.out (Nat.le_refl _) _ _ _ _
      rw [← hw5]
      clear hw5 HB1 p0 p1 p2 p3 hf1 hsz1
      obtain ⟨⟨y, hy⟩, hf, hlp⟩ := HQ.out w5 v' HB.out
      have a0 := hy.c0
      have a1 := hy.c1
      have a2 := hy.c2
      have a3 := hy.c3
      have HL := hide_p hlp
      have hne : sb ≠ w.heap.size := by omega
      clear hy hlp HQ HB
      go_wp2
      go_ret
      exact ⟨rfl, HL.out⟩
  · have hm : slotM (os.map Ob.om) o i v = (5, os.map Ob.om) := by
      unfold slotM
      rw [atM_map]
      by_cases d : 1 ≤ o ∧ o ≤ os.length
      · rw [if_pos d]
        cases hx : os[(o - 1).toNat]? with
        | none => rfl
        | some x =>
          simp only [Option.map_some]
          rw [if_neg]
          intro hq
          have hq2 : 0 ≤ i ∧ i < (x.sl.length : Int) := hq
          exact c ⟨(o - 1).toNat, i.toNat, x, by omega, hx, by omega, by omega⟩
      · rw [if_neg d]
    rw [hm]
    rw [show slotP os o i = none by
      unfold slotP
      by_cases d : 1 ≤ o ∧ o ≤ os.length
      · rw [if_pos d]
        cases hx : os[(o - 1).toNat]? with
        | none => rfl
        | some x =>
          show (if 0 ≤ i ∧ i < (x.sl.length : Int) then some (⟨x.sb, i.toNat * 4, none⟩ : Addr) else none) = _
          rw [if_neg]
          intro hq2
          exact c ⟨(o - 1).toNat, i.toNat, x, by omega, hx, by omega, by omega⟩
      · rw [if_neg d]] at HS
    clear hv hm c HB0
    go_enter Tryz.func33, Tryz.ntmps33
    go_wp2_with fail
    refine HS.out.mono ?_
    rintro e w' ⟨rfl, rfl⟩
    clear HS
    go_wp2
    go_ret
    exact ⟨rfl, HLP.out⟩

end Go.Proofs.YthmocdabakkfhaaGreatDoor

/-
  Layer 9: the reference's Slot; the landed heap's Slot and Len.
-/
namespace Go.Proofs.YthmocdabakkfhaaGreatDoor
set_option maxRecDepth 100000
open Go.RowKit Flo

/-- A slot's value, by lists. -/
def slotVal (L : List Om) (o i : Int) : V4 := match atM L o with
  | none => V0
  | some x => if 0 ≤ i ∧ i < x.sl.length then (x.sl[i.toNat]?).getD V0 else V0
theorem slotVal_rs (rs : List Rr) (o i : Int) : (slotOk rs o i = false → slotVal (rs.map Rr.om) o i = V0) ∧ ∀ r, rAt rs o = some r → slotOk rs o i = true → ∀ x, r.om.sl[i.toNat]? = some x → slotVal (rs.map Rr.om) o i = x := by
  refine ⟨fun h => ?_, fun r hr h x hx => ?_⟩
  · unfold slotVal slotOk at *
    rw [atM_rs]
    cases hq : rAt rs o with
    | none => rfl
    | some r =>
      rw [hq] at h
      simp only [Option.map_some]
      rw [if_neg (of_decide_eq_false h)]
  · unfold slotVal slotOk at *
    rw [atM_rs, hr]
    rw [hr] at h
    simp only [Option.map_some]
    rw [if_pos (of_decide_eq_true h), hx]
    rfl

set_option maxHeartbeats 1000000 in
theorem rslotV_any {w : World} {db lim : Nat} {R : Value} {rs : List Rr} {Q : Nat → Prop} (h : Rv w db lim R rs Q) (o i : Int) :
    Calls Tryz.prog 43 #[.pointer (some ⟨db, 0, none⟩), .int .i64 o, .int .i64 i] w fun e w' => e = .returned (.agg #[.int .i64 (slotVal (rs.map Rr.om) o i).K, .int .u64 (slotVal (rs.map Rr.om) o i).N, .string (slotVal (rs.map Rr.om) o i).S, .int .i64 (slotVal (rs.map Rr.om) o i).O]) ∧ Below w.heap.size w w' := by
  have hb0 : Below w.heap.size w (w.alloc (.cells #[.int .i64 0, .int .u64 0, .string ⟨#[]⟩, .int .i64 0] 37)) := (Below.refl _ _).alloc (Nat.le_refl _) _
  have HS := hide_p (rhasS_any (h.below hb0) o i)
  obtain ⟨hm0, hm1⟩ := slotVal_rs rs o i
  cases hok : slotOk rs o i with
  | false =>
    rw [hm0 hok]
    rw [hok] at HS
    have HB0 := hide_p hb0
    clear h hm0 hm1 hok hb0
    show Calls _ _ _ _ fun e w' => e = .returned (.agg #[.int .i64 0, .int .u64 0, .string ⟨#[]⟩, .int .i64 0]) ∧ _
    go_enter Tryz.func43, Tryz.ntmps43
    go_wp2_with fail
    refine HS.out.mono ?_
    rintro e w' ⟨rfl, hw'⟩
    subst hw'
    clear HS
    go_wp2
    exact bodyPost_ret (v := .agg #[.int .i64 0, .int .u64 0, .string ⟨#[]⟩, .int .i64 0]) (by simp [results, Tryz.results43, go_sem]) rfl ⟨rfl, HB0.out⟩
  | true =>
    obtain ⟨r, hr⟩ : ∃ r, rAt rs o = some r := by
      unfold slotOk at hok
      cases hx : rAt rs o with
      | none => rw [hx] at hok; cases hok
      | some r => exact ⟨r, rfl⟩
    obtain ⟨j, ho, hoj, hjl, hrj⟩ := rAt_some hr
    have hi : 0 ≤ i ∧ i < r.om.sl.length := by
      unfold slotOk at hok
      rw [hr] at hok
      exact of_decide_eq_true hok
    obtain ⟨p, hp⟩ : ∃ p : Nat, i = (p : Int) := ⟨i.toNat, by omega⟩
    have hpl : p < r.om.sl.length := by omega
    obtain ⟨x, hx⟩ : ∃ x, r.om.sl[p]? = some x := ⟨r.om.sl[p], List.getElem?_eq_getElem hpl⟩
    rw [hm1 r hr hok x (by rw [show i.toNat = p by omega]; exact hx)]
    rw [hok] at HS
    obtain ⟨a, cap, hR, hf⟩ := h.form
    obtain ⟨g, rfl, hgl, hc⟩ := hf (by omega)
    have hdb : db < w.heap.size := h.lt db h.qd
    have hc0 := h.c0
    rw [hR] at hc0
    obtain ⟨sa, sc, hsv, hsf⟩ := (h.ob j r hrj).s.form
    obtain ⟨sg, rfl, hsg, hat⟩ := hsf (by omega)
    have hcs : w.cell? ⟨g, j * 10 + 9, none⟩ = some (.slice (some ⟨sg, 0, none⟩) r.om.sl.length sc) := by
      rw [hc j r hrj 9 (by omega), ← hsv]; rfl
    have ha := hat p x hx
    have a0 := ha.c0
    have a1 := ha.c1
    have a2 := ha.c2
    have a3 := ha.c3
    have hlen : rs.length ≤ 1048576 := by have := usedR_len rs; have := h.hu; have := h.hl; omega
    have hslen : r.om.sl.length ≤ 1048576 := by have := usedR_ge rs j r hrj; have := h.hu; have := h.hl; have hw : r.om.wt = 1 + r.om.ks.length + r.om.sl.length := rfl; omega
    have hjl2 : (j : Int) < (rs.length : Int) := by omega
    have hpl2 : (p : Int) < (r.om.sl.length : Int) := by omega
    have HB0 := hide_p hb0
    clear h hR hf hc hr hrj hm0 hm1 hok hb0 hsv hsf hat ha hx hoj hi
    subst ho
    subst hp
    have e1 : (j : Int) + 1 - 1 = (j : Int) := by omega
    generalize rs.length = n at *
    generalize r.om.sl.length = m at *
    go_enter Tryz.func43, Tryz.ntmps43
    go_wp2_with fail
    refine HS.out.mono ?_
    rintro e w' ⟨rfl, hw'⟩
    subst hw'
    clear HS
    go_wp2
    exact bodyPost_ret (v := .agg #[.int .i64 x.K, .int .u64 x.N, .string x.S, .int .i64 x.O]) (by simp [results, Tryz.results43, go_sem]) rfl ⟨rfl, (Below.refl _ _).alloc (Nat.le_refl _) _⟩

/-! ### the landed heap's -/
set_option maxHeartbeats 1000000 in
theorem lslotV_any {w : World} {hb lim : Nat} {L : List Om} {Z : Nat → Prop} (h : LH w hb lim L Z) (o i : Int) :
    Calls Tryz.prog 42 #[.pointer (some ⟨hb, 0, none⟩), .int .i64 o, .int .i64 i] w fun e w' => e = .returned (.agg #[.int .i64 (slotVal L o i).K, .int .u64 (slotVal L o i).N, .string (slotVal L o i).S, .int .i64 (slotVal L o i).O]) ∧ Below w.heap.size w w' := by
  obtain ⟨used, R, os, hv, rfl⟩ := h
  have hb0 : Below w.heap.size w (w.alloc (.cells #[.int .i64 0, .int .u64 0, .string ⟨#[]⟩, .int .i64 0] 37)) := (Below.refl _ _).alloc (Nat.le_refl _) _
  have HS := hide_p (hslot_any (hv.below hb0) o i)
  have HB0 := hide_p hb0
  by_cases c : ∃ (p q : Nat) (x : Ob), o = (p : Int) + 1 ∧ os[p]? = some x ∧ i = (q : Int) ∧ q < x.sl.length
  · obtain ⟨p, q, x, ho, hx, hi, hq⟩ := c
    have hpl : p < os.length := by
      rcases Nat.lt_or_ge p os.length with c | c
      · exact c
      · rw [List.getElem?_eq_none c] at hx; cases hx
    obtain ⟨y, hy⟩ : ∃ y, x.sl[q]? = some y := ⟨x.sl[q], List.getElem?_eq_getElem hq⟩
    have hat : atM (os.map Ob.om) o = some x.om := by rw [atM_map, if_pos (by omega), show (o - 1).toNat = p by omega, hx]; rfl
    have hm : slotVal (os.map Ob.om) o i = y := by
      unfold slotVal
      rw [hat]
      simp only
      rw [if_pos (by show 0 ≤ i ∧ i < (x.sl.length : Int); omega), show i.toNat = q by omega]
      show (x.sl[q]?).getD V0 = y
      rw [hy]; rfl
    rw [hm]
    rw [show slotP os o i = some ⟨x.sb, q * 4, none⟩ by unfold slotP; rw [if_pos (by omega), show (o - 1).toNat = p by omega, hx]; show (if 0 ≤ i ∧ i < (x.sl.length : Int) then some (⟨x.sb, i.toNat * 4, none⟩ : Addr) else none) = _; rw [if_pos (by omega), show i.toNat = q by omega]] at HS
    have htb : x.tb = none := by
      cases htb : x.tb with
      | none => rfl
      | some t => have := (((hv.ob p x hx).tab t htb).1.2.2.2); rw [this] at hq; simp at hq
    have hoth := (hv.ob p x hx).oth htb
    have hsb : x.sb < w.heap.size := hoth.2.2.1
    have ha := hoth.2.2.2.2 q y hy
    rw [Nat.mul_comm 4 q] at ha
    have a0 := ha.c0
    have a1 := ha.c1
    have a2 := ha.c2
    have a3 := ha.c3
    clear hv hm hat hx ho hi hq hpl hb0 hoth ha hy htb
    generalize x.sb = sb at *
    go_enter Tryz.func42, Tryz.ntmps42
    go_wp2_with fail
    refine HS.out.mono ?_
    rintro e w' ⟨rfl, hw'⟩
    subst hw'
    clear HS
    go_wp2
    exact bodyPost_ret (v := .agg #[.int .i64 y.K, .int .u64 y.N, .string y.S, .int .i64 y.O]) (by simp [results, Tryz.results42, go_sem]) rfl ⟨rfl, (Below.refl _ _).alloc (Nat.le_refl _) _⟩
  · have hm : slotVal (os.map Ob.om) o i = V0 := by
      unfold slotVal
      rw [atM_map]
      by_cases d : 1 ≤ o ∧ o ≤ os.length
      · rw [if_pos d]
        cases hx : os[(o - 1).toNat]? with
        | none => rfl
        | some x =>
          simp only [Option.map_some]
          rw [if_neg]
          intro hq
          have hq2 : 0 ≤ i ∧ i < (x.sl.length : Int) := hq
          exact c ⟨(o - 1).toNat, i.toNat, x, by omega, hx, by omega, by omega⟩
      · rw [if_neg d]
    rw [hm]
    rw [show slotP os o i = none by
      unfold slotP
      by_cases d : 1 ≤ o ∧ o ≤ os.length
      · rw [if_pos d]
        cases hx : os[(o - 1).toNat]? with
        | none => rfl
        | some x =>
          show (if 0 ≤ i ∧ i < (x.sl.length : Int) then some (⟨x.sb, i.toNat * 4, none⟩ : Addr) else none) = _
          rw [if_neg]
          intro hq2
          exact c ⟨(o - 1).toNat, i.toNat, x, by omega, hx, by omega, by omega⟩
      · rw [if_neg d]] at HS
    clear hv hm c hb0
    show Calls _ _ _ _ fun e w' => e = .returned (.agg #[.int .i64 0, .int .u64 0, .string ⟨#[]⟩, .int .i64 0]) ∧ _
    go_enter Tryz.func42, Tryz.ntmps42
    go_wp2_with fail
    refine HS.out.mono ?_
    rintro e w' ⟨rfl, hw'⟩
    subst hw'
    clear HS
    go_wp2
    exact bodyPost_ret (v := .agg #[.int .i64 0, .int .u64 0, .string ⟨#[]⟩, .int .i64 0]) (by simp [results, Tryz.results42, go_sem]) rfl ⟨rfl, HB0.out⟩

theorem llen_any {w : World} {hb lim : Nat} {L : List Om} {Z : Nat → Prop} (h : LH w hb lim L Z) :
    Calls Tryz.prog 45 #[.pointer (some ⟨hb, 0, none⟩)] w fun e w' => e = .returned (.int .i64 (L.length : Int)) ∧ w' = w := by
  obtain ⟨used, R, os, hv, rfl⟩ := h
  obtain ⟨a, cap, hR⟩ : ∃ a cap, R = .slice a os.length cap := by
    rcases rowForm hv.row with ⟨e, e0⟩ | ⟨g, cap, e, _⟩
    · exact ⟨none, 0, by rw [e, e0]⟩
    · exact ⟨_, cap, e⟩
  have c2 := hv.c2
  rw [hR] at c2
  rw [List.length_map]
  clear hv hR
  go_enter Tryz.func45, Tryz.ntmps45
  go_wp2
  go_ret
  exact ⟨rfl, rfl⟩

end Go.Proofs.YthmocdabakkfhaaGreatDoor

/-
  Layer 9: the reference's Get.
-/
namespace Go.Proofs.YthmocdabakkfhaaGreatDoor
set_option maxRecDepth 100000
open Go.RowKit Flo

/-- A key's value, by lists. -/
def getVal (L : List Om) (o : Int) (k : V4) : V4 := match tabM L o with
  | none => V0
  | some x => if kok k.K k.N = true then (match placeM x.ks (keyV k) with
    | none => V0
    | some j => (x.vs[j]?).getD V0) else V0
theorem placeM_lt {ks : List V4} {k : V4} {p : Nat} (h : placeM ks k = some p) : p < ks.length := by
  unfold placeM at h
  exact (List.findIdx?_eq_some_iff_getElem.1 h).1

set_option maxHeartbeats 2000000 in
theorem rget_any {w : World} {db lim : Nat} {R : Value} {rs : List Rr} {Q : Nat → Prop} (h : Rv w db lim R rs Q) (o : Int) (k : V4) (hN : U64 k.N) :
    Calls Tryz.prog 38 #[.pointer (some ⟨db, 0, none⟩), .int .i64 o, .agg #[.int .i64 k.K, .int .u64 k.N, .string k.S, .int .i64 k.O]] w fun e w' => e = .returned (.agg #[.int .i64 (getVal (rs.map Rr.om) o k).K, .int .u64 (getVal (rs.map Rr.om) o k).N, .string (getVal (rs.map Rr.om) o k).S, .int .i64 (getVal (rs.map Rr.om) o k).O]) ∧ Below w.heap.size w w' := by
  have HB0 : Hid (Below w.heap.size w ((w.alloc (.cells #[.int .i64 k.K, .int .u64 k.N, .string k.S, .int .i64 k.O] 37)).alloc (.cells #[.int .i64 0, .int .u64 0, .string ⟨#[]⟩, .int .i64 0] 37))) := ((Below.refl _ _).alloc (Nat.le_refl _) _).alloc (by simp) _
  have HK : Hid (∀ w, Calls Tryz.prog 62 #[.agg #[.int .i64 k.K, .int .u64 k.N, .string k.S, .int .i64 k.O]] w fun e w' => e = .returned (.tuple #[.agg #[.int .i64 (keyV k).K, .int .u64 (keyV k).N, .string (keyV k).S, .int .i64 (keyV k).O], .bool (kok k.K k.N)]) ∧ Below w.heap.size w w') := fun w => refKey_any k.K k.N k.S k.O w hN
  have HV := hide_p h
  have HG : Hid ((rTab rs o = none → getVal (rs.map Rr.om) o k = V0) ∧ (kok k.K k.N = false → getVal (rs.map Rr.om) o k = V0) ∧ ∀ r, rTab rs o = some r → kok k.K k.N = true → (placeM r.om.ks (keyV k) = none → getVal (rs.map Rr.om) o k = V0) ∧ ∀ p x, placeM r.om.ks (keyV k) = some p → r.om.vs[p]? = some x → getVal (rs.map Rr.om) o k = x) := by
    refine ⟨fun e => ?_, fun e => ?_, fun r e hk => ⟨fun hp => ?_, fun p x hp hx => ?_⟩⟩
    · unfold getVal; rw [tabM_rs, e]; rfl
    · unfold getVal; rw [tabM_rs]; cases rTab rs o with
      | none => rfl
      | some r => simp only [Option.map_some]; rw [if_neg (by rw [e]; decide)]
    · unfold getVal; rw [tabM_rs, e]; simp only [Option.map_some]; rw [if_pos hk, hp]
    · unfold getVal; rw [tabM_rs, e]; simp only [Option.map_some]; rw [if_pos hk, hp]; show (r.om.vs[p]?).getD V0 = x; rw [hx]; rfl
  generalize getVal (rs.map Rr.om) o k = res at *
  generalize keyV k = kk at *
  cases hko : kok k.K k.N with
  | false =>
    rw [hko] at HK
    have HR : Hid (res = V0) := HG.out.2.1 hko
    clear h HG hko
    go_enter Tryz.func38, Tryz.ntmps38
    go_upto_region 1 with fail
    go_wp2_with fail
    refine (HK.out _).mono ?_
    rintro e w1 ⟨rfl, hb1⟩
    obtain ⟨p0, p1, p2, p3⟩ := keep4 (b := w.heap.size) (v0 := .int .i64 k.K) (v1 := .int .u64 k.N) (v2 := .string k.S) (v3 := .int .i64 k.O) ⟨by go_simp, by go_simp, by go_simp, by go_simp⟩ hb1
    obtain ⟨s0, s1, s2, s3⟩ := keep4 (b := w.heap.size + 1) (v0 := .int .i64 0) (v1 := .int .u64 0) (v2 := .string ⟨#[]⟩) (v3 := .int .i64 0) ⟨by go_simp, by go_simp, by go_simp, by go_simp⟩ hb1
    have hf1 : ∀ q, w1.frozen? ⟨w.heap.size, q, none⟩ = false := fun q => (hb1.frozen (by simp; omega)).trans (by go_simp)
    have hf2 : ∀ q, w1.frozen? ⟨w.heap.size + 1, q, none⟩ = false := fun q => (hb1.frozen (by simp)).trans (by go_simp)
    have HB1 : Hid (Below w.heap.size w w1) := HB0.out.trans (hb1.mono (by simp; omega))
    have hsz1 : w.heap.size + 2 ≤ w1.heap.size := by have := hb1.size; simp at this; omega
    clear hb1 HK HB0
    obtain ⟨w5, hw5⟩ : ∃ w5, w5 = (((w1.setCell ⟨w.heap.size, 0, none⟩ (.int .i64 kk.K)).setCell ⟨w.heap.size, 1, none⟩ (.int .u64 kk.N)).setCell ⟨w.heap.size, 2, none⟩ (.string kk.S)).setCell ⟨w.heap.size, 3, none⟩ (.int .i64 kk.O) := ⟨_, rfl⟩
    have k0 : w5.cell? ⟨w.heap.size, 0, none⟩ = some (.int .i64 kk.K) := by rw [hw5]; go_simp
    have k1 : w5.cell? ⟨w.heap.size, 1, none⟩ = some (.int .u64 kk.N) := by rw [hw5]; go_simp
    have k2 : w5.cell? ⟨w.heap.size, 2, none⟩ = some (.string kk.S) := by rw [hw5]; go_simp
    have k3 : w5.cell? ⟨w.heap.size, 3, none⟩ = some (.int .i64 kk.O) := by rw [hw5]; go_simp
    have t0 : w5.cell? ⟨w.heap.size + 1, 0, none⟩ = some (.int .i64 0) := by rw [hw5]; go_simp
    have t1 : w5.cell? ⟨w.heap.size + 1, 1, none⟩ = some (.int .u64 0) := by rw [hw5]; go_simp
    have t2 : w5.cell? ⟨w.heap.size + 1, 2, none⟩ = some (.string ⟨#[]⟩) := by rw [hw5]; go_simp
    have t3 : w5.cell? ⟨w.heap.size + 1, 3, none⟩ = some (.int .i64 0) := by rw [hw5]; go_simp
    have tf : ∀ q, w5.frozen? ⟨w.heap.size + 1, q, none⟩ = false := fun q => by rw [hw5]; go_simp
    have HB : Hid (Below w.heap.size w w5) := by rw [hw5]; exact set41 HB1.out (Nat.le_refl _) _ _ _ _
    have hsz : w.heap.size + 2 ≤ w5.heap.size := by rw [hw5]; simp; omega
    go_upto_region 2 with fail
    rw [← hw5]
    clear hw5 p0 p1 p2 p3 s0 s1 s2 s3 hf1 hf2 HB1 hsz1
    have HH := hide_p (rhas_any (HV.out.below HB.out) o)
    go_wp2_with fail
    refine HH.out.mono ?_
    rintro e w6 ⟨rfl, hw6⟩
    have hw6s := hw6.symm
    subst hw6s
    clear HH
    cases hb : (rTab rs o).isSome
    all_goals
      go_wp2
      rw [HR.out]
      exact bodyPost_ret (v := .agg #[.int .i64 0, .int .u64 0, .string ⟨#[]⟩, .int .i64 0]) (by simp [results, Tryz.results38, go_sem, t0, t1, t2, t3]) rfl ⟨rfl, set41 HB.out (by omega) _ _ _ _⟩
  | true =>
    rw [hko] at HK
    cases ht : rTab rs o with
    | none =>
      have HR : Hid (res = V0) := HG.out.1 ht
      clear h HG hko
      go_enter Tryz.func38, Tryz.ntmps38
      go_upto_region 1 with fail
      go_wp2_with fail
      refine (HK.out _).mono ?_
      rintro e w1 ⟨rfl, hb1⟩
      obtain ⟨p0, p1, p2, p3⟩ := keep4 (b := w.heap.size) (v0 := .int .i64 k.K) (v1 := .int .u64 k.N) (v2 := .string k.S) (v3 := .int .i64 k.O) ⟨by go_simp, by go_simp, by go_simp, by go_simp⟩ hb1
      obtain ⟨s0, s1, s2, s3⟩ := keep4 (b := w.heap.size + 1) (v0 := .int .i64 0) (v1 := .int .u64 0) (v2 := .string ⟨#[]⟩) (v3 := .int .i64 0) ⟨by go_simp, by go_simp, by go_simp, by go_simp⟩ hb1
      have hf1 : ∀ q, w1.frozen? ⟨w.heap.size, q, none⟩ = false := fun q => (hb1.frozen (by simp; omega)).trans (by go_simp)
      have hf2 : ∀ q, w1.frozen? ⟨w.heap.size + 1, q, none⟩ = false := fun q => (hb1.frozen (by simp)).trans (by go_simp)
      have HB1 : Hid (Below w.heap.size w w1) := HB0.out.trans (hb1.mono (by simp; omega))
      have hsz1 : w.heap.size + 2 ≤ w1.heap.size := by have := hb1.size; simp at this; omega
      clear hb1 HK HB0
      obtain ⟨w5, hw5⟩ : ∃ w5, w5 = (((w1.setCell ⟨w.heap.size, 0, none⟩ (.int .i64 kk.K)).setCell ⟨w.heap.size, 1, none⟩ (.int .u64 kk.N)).setCell ⟨w.heap.size, 2, none⟩ (.string kk.S)).setCell ⟨w.heap.size, 3, none⟩ (.int .i64 kk.O) := ⟨_, rfl⟩
      have k0 : w5.cell? ⟨w.heap.size, 0, none⟩ = some (.int .i64 kk.K) := by rw [hw5]; go_simp
      have k1 : w5.cell? ⟨w.heap.size, 1, none⟩ = some (.int .u64 kk.N) := by rw [hw5]; go_simp
      have k2 : w5.cell? ⟨w.heap.size, 2, none⟩ = some (.string kk.S) := by rw [hw5]; go_simp
      have k3 : w5.cell? ⟨w.heap.size, 3, none⟩ = some (.int .i64 kk.O) := by rw [hw5]; go_simp
      have t0 : w5.cell? ⟨w.heap.size + 1, 0, none⟩ = some (.int .i64 0) := by rw [hw5]; go_simp
      have t1 : w5.cell? ⟨w.heap.size + 1, 1, none⟩ = some (.int .u64 0) := by rw [hw5]; go_simp
      have t2 : w5.cell? ⟨w.heap.size + 1, 2, none⟩ = some (.string ⟨#[]⟩) := by rw [hw5]; go_simp
      have t3 : w5.cell? ⟨w.heap.size + 1, 3, none⟩ = some (.int .i64 0) := by rw [hw5]; go_simp
      have tf : ∀ q, w5.frozen? ⟨w.heap.size + 1, q, none⟩ = false := fun q => by rw [hw5]; go_simp
      have HB : Hid (Below w.heap.size w w5) := by rw [hw5]; exact set41 HB1.out (Nat.le_refl _) _ _ _ _
      have hsz : w.heap.size + 2 ≤ w5.heap.size := by rw [hw5]; simp; omega
      go_upto_region 2 with fail
      rw [← hw5]
      clear hw5 p0 p1 p2 p3 s0 s1 s2 s3 hf1 hf2 HB1 hsz1
      have HH := hide_p (rhas_any (HV.out.below HB.out) o)
      rw [show (rTab rs o).isSome = false by rw [ht]; rfl] at HH
      clear ht
      go_wp2_with fail
      refine HH.out.mono ?_
      rintro e w6 ⟨rfl, hw6⟩
      have hw6s := hw6.symm
      subst hw6s
      clear HH
      go_wp2
      rw [HR.out]
      exact bodyPost_ret (v := .agg #[.int .i64 0, .int .u64 0, .string ⟨#[]⟩, .int .i64 0]) (by simp [results, Tryz.results38, go_sem, t0, t1, t2, t3]) rfl ⟨rfl, set41 HB.out (by omega) _ _ _ _⟩
    | some r =>
      obtain ⟨hra, hrk⟩ := rTab_some ht
      obtain ⟨j, ho, hoj, hjl, hrj⟩ := rAt_some hra
      have HG2 := hide_p (HG.out.2.2 r ht hko)
      have HRJ := hide_p hrj
      obtain ⟨ka, kc, hkv, _⟩ := (h.ob j r hrj).k.form
      obtain ⟨va, vc, hvv, _⟩ := (h.ob j r hrj).v.form
      obtain ⟨sa, sc, hsv, _⟩ := (h.ob j r hrj).s.form
      have hkl : r.om.ks.length ≤ 1048576 := by have := usedR_ge rs j r hrj; have := h.hu; have := h.hl; have hw : r.om.wt = 1 + r.om.ks.length + r.om.sl.length := rfl; omega
      have hvl : Hid (r.om.vs.length = r.om.ks.length) := (h.ob j r hrj).len
      have hjl2 : (j : Int) < (rs.length : Int) := by omega
      have HTB : Hid ((rTab rs o).isSome = true) := by show (rTab rs o).isSome = true; rw [ht]; rfl
      clear ht hra hrk hoj h hrj hko HG
      obtain ⟨rom, kv, vv, sv⟩ := r
      simp only at hkv hvv hsv hkl hvl HG2
      subst hkv
      subst hvv
      subst hsv
      subst ho
      have e1 : (j : Int) + 1 - 1 = (j : Int) := by omega
      go_enter Tryz.func38, Tryz.ntmps38
      go_upto_region 1 with fail
      go_wp2_with fail
      refine (HK.out _).mono ?_
      rintro e w1 ⟨rfl, hb1⟩
      obtain ⟨p0, p1, p2, p3⟩ := keep4 (b := w.heap.size) (v0 := .int .i64 k.K) (v1 := .int .u64 k.N) (v2 := .string k.S) (v3 := .int .i64 k.O) ⟨by go_simp, by go_simp, by go_simp, by go_simp⟩ hb1
      obtain ⟨s0, s1, s2, s3⟩ := keep4 (b := w.heap.size + 1) (v0 := .int .i64 0) (v1 := .int .u64 0) (v2 := .string ⟨#[]⟩) (v3 := .int .i64 0) ⟨by go_simp, by go_simp, by go_simp, by go_simp⟩ hb1
      have hf1 : ∀ q, w1.frozen? ⟨w.heap.size, q, none⟩ = false := fun q => (hb1.frozen (by simp; omega)).trans (by go_simp)
      have hf2 : ∀ q, w1.frozen? ⟨w.heap.size + 1, q, none⟩ = false := fun q => (hb1.frozen (by simp)).trans (by go_simp)
      have HB1 : Hid (Below w.heap.size w w1) := HB0.out.trans (hb1.mono (by simp; omega))
      have hsz1 : w.heap.size + 2 ≤ w1.heap.size := by have := hb1.size; simp at this; omega
      clear hb1 HK HB0
      obtain ⟨w5, hw5⟩ : ∃ w5, w5 = (((w1.setCell ⟨w.heap.size, 0, none⟩ (.int .i64 kk.K)).setCell ⟨w.heap.size, 1, none⟩ (.int .u64 kk.N)).setCell ⟨w.heap.size, 2, none⟩ (.string kk.S)).setCell ⟨w.heap.size, 3, none⟩ (.int .i64 kk.O) := ⟨_, rfl⟩
      have k0 : w5.cell? ⟨w.heap.size, 0, none⟩ = some (.int .i64 kk.K) := by rw [hw5]; go_simp
      have k1 : w5.cell? ⟨w.heap.size, 1, none⟩ = some (.int .u64 kk.N) := by rw [hw5]; go_simp
      have k2 : w5.cell? ⟨w.heap.size, 2, none⟩ = some (.string kk.S) := by rw [hw5]; go_simp
      have k3 : w5.cell? ⟨w.heap.size, 3, none⟩ = some (.int .i64 kk.O) := by rw [hw5]; go_simp
      have t0 : w5.cell? ⟨w.heap.size + 1, 0, none⟩ = some (.int .i64 0) := by rw [hw5]; go_simp
      have t1 : w5.cell? ⟨w.heap.size + 1, 1, none⟩ = some (.int .u64 0) := by rw [hw5]; go_simp
      have t2 : w5.cell? ⟨w.heap.size + 1, 2, none⟩ = some (.string ⟨#[]⟩) := by rw [hw5]; go_simp
      have t3 : w5.cell? ⟨w.heap.size + 1, 3, none⟩ = some (.int .i64 0) := by rw [hw5]; go_simp
      have tf : ∀ q, w5.frozen? ⟨w.heap.size + 1, q, none⟩ = false := fun q => by rw [hw5]; go_simp
      have HB : Hid (Below w.heap.size w w5) := by rw [hw5]; exact set41 HB1.out (Nat.le_refl _) _ _ _ _
      have hsz : w.heap.size + 2 ≤ w5.heap.size := by rw [hw5]; simp; omega
      go_upto_region 2 with fail
      rw [← hw5]
      clear hw5 p0 p1 p2 p3 s0 s1 s2 s3 hf1 hf2 HB1 hsz1
      have HH := hide_p (rhas_any (HV.out.below HB.out) ((j : Int) + 1))
      rw [HTB.out] at HH
      clear HTB
      go_wp2_with fail
      refine HH.out.mono ?_
      rintro e w6 ⟨rfl, hw6⟩
      have hw6s := hw6.symm
      subst hw6s
      clear HH
      go_upto_region 4 with fail
      have hv5 := HV.out.below HB.out
      obtain ⟨a0, cap0, hR, hf0⟩ := hv5.form
      obtain ⟨g0, rfl, hg0, hc0⟩ := hf0 (by omega)
      have x := fun q hq => hc0 j _ HRJ.out q hq
      have c0 : w5.cell? ⟨db, 0, none⟩ = some (.slice (some ⟨g0, 0, none⟩) rs.length cap0) := by rw [← hR]; exact hv5.c0
      have x0 : w5.cell? ⟨g0, j * 10, none⟩ = some (.int .i64 rom.k) := x 0 (by omega)
      have x1 : w5.cell? ⟨g0, j * 10 + 1, none⟩ = some (.slice ka rom.ks.length kc) := x 1 (by omega)
      have x2 : w5.cell? ⟨g0, j * 10 + 2, none⟩ = some (.slice va rom.vs.length vc) := x 2 (by omega)
      have x3 : w5.cell? ⟨g0, j * 10 + 3, none⟩ = some (.int .i64 rom.M.K) := x 3 (by omega)
      have x4 : w5.cell? ⟨g0, j * 10 + 4, none⟩ = some (.int .u64 rom.M.N) := x 4 (by omega)
      have x5 : w5.cell? ⟨g0, j * 10 + 5, none⟩ = some (.string rom.M.S) := x 5 (by omega)
      have x6 : w5.cell? ⟨g0, j * 10 + 6, none⟩ = some (.int .i64 rom.M.O) := x 6 (by omega)
      have x7 : w5.cell? ⟨g0, j * 10 + 7, none⟩ = some (.int .i64 rom.a) := x 7 (by omega)
      have x8 : w5.cell? ⟨g0, j * 10 + 8, none⟩ = some (.int .i64 rom.b) := x 8 (by omega)
      have x9 : w5.cell? ⟨g0, j * 10 + 9, none⟩ = some (.slice sa rom.sl.length sc) := x 9 (by omega)
      have hlen : rs.length ≤ 1048576 := by have := usedR_len rs; have := HV.out.hu; have := HV.out.hl; omega
      clear hc0 hf0 hR hg0 x hv5
      go_cut [8] (fun t8 wx => t8 = .pointer (some ⟨w5.heap.size, 0, none⟩) ∧ Hid (Bo wx w5.heap.size (⟨rom, .slice ka rom.ks.length kc, .slice va rom.vs.length vc, .slice sa rom.sl.length sc⟩ : Rr) ∧ Below w5.heap.size w5 wx))
      case first =>
        go_wp2_with fail
        go_meet
        exact ⟨rfl, bo_lit w5 (⟨rom, .slice ka rom.ks.length kc, .slice va rom.vs.length vc, .slice sa rom.sl.length sc⟩ : Rr) #[.int .i64 rom.k, .slice ka rom.ks.length kc, .slice va rom.vs.length vc, .int .i64 rom.M.K, .int .u64 rom.M.N, .string rom.M.S, .int .i64 rom.M.O, .int .i64 rom.a, .int .i64 rom.b, .slice sa rom.sl.length sc] rfl, (Below.refl _ _).alloc (Nat.le_refl _) _⟩
      case rest =>
        obtain ⟨rfl, HX⟩ := hcut
        clear x0 x1 x2 x3 x4 x5 x6 x7 x8 x9 c0
        obtain ⟨w6, hw6⟩ : ∃ x, x = wc := ⟨_, rfl⟩
        subst hw6
        have HB6 : Hid (Below w.heap.size w w6) := HB.out.trans (HX.out.2.mono HB.out.size)
        have hs6 : w5.heap.size < w6.heap.size := HX.out.1.lt
        have bo := HX.out.1
        have n0 : w6.cell? ⟨w5.heap.size, 0, none⟩ = some (.int .i64 rom.k) := bo.c 0 (by omega)
        have n1 : w6.cell? ⟨w5.heap.size, 1, none⟩ = some (.slice ka rom.ks.length kc) := bo.c 1 (by omega)
        have n2 : w6.cell? ⟨w5.heap.size, 2, none⟩ = some (.slice va rom.vs.length vc) := bo.c 2 (by omega)
        have n3 : w6.cell? ⟨w5.heap.size, 3, none⟩ = some (.int .i64 rom.M.K) := bo.c 3 (by omega)
        have n4 : w6.cell? ⟨w5.heap.size, 4, none⟩ = some (.int .u64 rom.M.N) := bo.c 4 (by omega)
        have n5 : w6.cell? ⟨w5.heap.size, 5, none⟩ = some (.string rom.M.S) := bo.c 5 (by omega)
        have n6 : w6.cell? ⟨w5.heap.size, 6, none⟩ = some (.int .i64 rom.M.O) := bo.c 6 (by omega)
        have n7 : w6.cell? ⟨w5.heap.size, 7, none⟩ = some (.int .i64 rom.a) := bo.c 7 (by omega)
        have n8 : w6.cell? ⟨w5.heap.size, 8, none⟩ = some (.int .i64 rom.b) := bo.c 8 (by omega)
        have n9 : w6.cell? ⟨w5.heap.size, 9, none⟩ = some (.slice sa rom.sl.length sc) := bo.c 9 (by omega)
        have z0 := (HX.out.2.cell (show w.heap.size < w5.heap.size by omega)).trans k0
        have z1 := (HX.out.2.cell (show w.heap.size < w5.heap.size by omega)).trans k1
        have z2 := (HX.out.2.cell (show w.heap.size < w5.heap.size by omega)).trans k2
        have z3 := (HX.out.2.cell (show w.heap.size < w5.heap.size by omega)).trans k3
        have HP := hide_p (place_any (⟨rom, .slice ka rom.ks.length kc, .slice va rom.vs.length vc, .slice sa rom.sl.length sc⟩ : Rr) kk w6 ((HV.out.below HB6.out).ob j _ HRJ.out).k ⟨_, _, _, rfl⟩ ⟨_, _, _, rfl⟩ hkl)
        clear bo
        go_wp2_with fail
        refine HP.out.mono ?_
        rintro e w7 ⟨rfl, hb7⟩
        have HB7 : Hid (Below w.heap.size w w7) := HB6.out.trans (hb7.mono HB6.out.size)
        have m2 : w7.cell? ⟨w5.heap.size, 2, none⟩ = some (.slice va rom.vs.length vc) := (hb7.cell hs6).trans n2
        have u0 := (hb7.cell (show w.heap.size + 1 < w6.heap.size by omega)).trans ((HX.out.2.cell (show w.heap.size + 1 < w5.heap.size by omega)).trans t0)
        have u1 := (hb7.cell (show w.heap.size + 1 < w6.heap.size by omega)).trans ((HX.out.2.cell (show w.heap.size + 1 < w5.heap.size by omega)).trans t1)
        have u2 := (hb7.cell (show w.heap.size + 1 < w6.heap.size by omega)).trans ((HX.out.2.cell (show w.heap.size + 1 < w5.heap.size by omega)).trans t2)
        have u3 := (hb7.cell (show w.heap.size + 1 < w6.heap.size by omega)).trans ((HX.out.2.cell (show w.heap.size + 1 < w5.heap.size by omega)).trans t3)
        have uf : ∀ q, w7.frozen? ⟨w.heap.size + 1, q, none⟩ = false := fun q => (hb7.frozen (show w.heap.size + 1 < w6.heap.size by omega)).trans ((HX.out.2.frozen (show w.heap.size + 1 < w5.heap.size by omega)).trans (tf q))
        have hsz7 : w.heap.size + 2 ≤ w7.heap.size := by have := hb7.size; omega
        have hvr := ((HV.out.below HB7.out).ob j _ HRJ.out).v
        clear n0 n1 n2 n3 n4 n5 n6 n7 n8 n9 z0 z1 z2 z3 HP hb7 k0 k1 k2 k3 t0 t1 t2 t3 tf HX
        cases hp : placeM rom.ks kk with
        | none =>
          have HR : Hid (res = V0) := HG2.out.1 hp
          rw [show plN none = -1 from rfl]
          clear hvr HG2 hp
          go_wp2
          rw [HR.out]
          exact bodyPost_ret (v := .agg #[.int .i64 0, .int .u64 0, .string ⟨#[]⟩, .int .i64 0]) (by simp [results, Tryz.results38, go_sem, u0, u1, u2, u3]) rfl ⟨rfl, set41 HB7.out (by omega) _ _ _ _⟩
        | some p =>
          have hpl := placeM_lt hp
          have hpv : p < rom.vs.length := by have := hvl.out; omega
          obtain ⟨y, hy⟩ : ∃ y, rom.vs[p]? = some y := ⟨rom.vs[p], List.getElem?_eq_getElem hpv⟩
          have HR : Hid (res = y) := HG2.out.2 p y hp hy
          obtain ⟨_, _, ev, hvf⟩ := hvr.form
          simp only [Value.slice.injEq, true_and] at ev
          obtain ⟨ev1, ev2⟩ := ev
          obtain ⟨g2, eg, hg2, hat⟩ := hvf (show 0 < rom.vs.length by omega)
          rw [← ev1] at eg
          subst eg
          clear ev1 ev2
          have ha := hat p y hy
          have a0 := ha.c0
          have a1 := ha.c1
          have a2 := ha.c2
          have a3 := ha.c3
          have hpi : (p : Int) < (rom.vs.length : Int) := by omega
          have hpn : ¬ ((p : Int) < 0) := by omega
          have hvlen : rom.vs.length ≤ 1048576 := by have := hvl.out; omega
          rw [show plN (some p) = (p : Int) from rfl]
          clear hvr HG2 hp hvf hat ha hy
          go_wp2
          rw [HR.out]
          exact bodyPost_ret (v := .agg #[.int .i64 y.K, .int .u64 y.N, .string y.S, .int .i64 y.O]) (by simp [results, Tryz.results38, go_sem, u0, u1, u2, u3]) rfl ⟨rfl, set41 HB7.out (by omega) _ _ _ _⟩
end Go.Proofs.YthmocdabakkfhaaGreatDoor

/-
  Layer 9: the landed heap's Get and Look, by lists.
-/
namespace Go.Proofs.YthmocdabakkfhaaGreatDoor
set_option maxRecDepth 100000
open Go.RowKit Flo

theorem tabM_of {w : World} {hb lim used : Nat} {R : Value} {os : List Ob} {Z : Nat → Prop} (h : Hv w hb lim used R os Z) {o : Int} {x : Ob} (ht : tabOf os o = some x) : tabM (os.map Ob.om) o = some x.om := by
  cases hm : tabM (os.map Ob.om) o with
  | none => rw [(tabM_none h).1 hm] at ht; cases ht
  | some m =>
    obtain ⟨i, tb, y, ho, _, hi, hy, rfl⟩ := tabM_some h hm
    have := tabOf_of hi hy
    rw [← ho, ht] at this
    cases this
    rfl
theorem fnd_om (es : List En) (k : V4) : (match placeM (es.map En.k4) k with
    | none => V0
    | some j => ((es.map En.v4)[j]?).getD V0) = fndV (ofKey k.K k.N k.S k.O es) := by
  cases hf : ofKey k.K k.N k.S k.O es with
  | none => rw [place_none.2 hf]; rfl
  | some f =>
    obtain ⟨xo, yo, h1, h2⟩ := place_some hf
    rw [h2]
    show ((es.map En.v4)[xo.length]?).getD V0 = f.v4
    rw [h1, List.map_append, List.map_cons, List.getElem?_append_right (by simp)]
    simp
theorem getVal_om {w : World} {hb lim used : Nat} {R : Value} {os : List Ob} {Z : Nat → Prop} (h : Hv w hb lim used R os Z) {o : Int} {x : Ob} (ht : tabOf os o = some x) (k : V4) (hk : kok k.K k.N = true) :
    getVal (os.map Ob.om) o k = fndV (ofKey (yK k.K k.N) (yN k.K k.N) (yS k.K k.N k.S) (yO k.K k.N k.O) x.es) := by
  unfold getVal
  rw [tabM_of h ht]
  simp only
  rw [if_pos hk]
  exact fnd_om x.es (keyV k)
theorem getV_om {w : World} {hb lim used : Nat} {R : Value} {os : List Ob} {Z : Nat → Prop} (h : Hv w hb lim used R os Z) (o : Int) (k : V4) : getV os o k.K k.N k.S k.O = getVal (os.map Ob.om) o k := by
  cases ht : tabOf os o with
  | none => unfold getV getVal; rw [ht, (tabM_none h).2 ht]
  | some x =>
    by_cases hk : kok k.K k.N = true
    · rw [getVal_om h ht k hk]
      unfold getV
      rw [ht]
      simp only
      rw [if_pos hk]
    · unfold getV getVal
      rw [ht, tabM_of h ht]
      simp only
      rw [if_neg hk, if_neg hk]
theorem lget_any {w : World} {hb lim : Nat} {L : List Om} {Z : Nat → Prop} (h : LH w hb lim L Z) (o : Int) (k : V4) (hN : U64 k.N) (hS : k.S.size ≤ 9223372036854775807) :
    Calls Tryz.prog 9 #[.pointer (some ⟨hb, 0, none⟩), .int .i64 o, .agg #[.int .i64 k.K, .int .u64 k.N, .string k.S, .int .i64 k.O]] w fun e w' => e = .returned (.agg #[.int .i64 (getVal L o k).K, .int .u64 (getVal L o k).N, .string (getVal L o k).S, .int .i64 (getVal L o k).O]) ∧ Below w.heap.size w w' := by
  obtain ⟨used, R, os, hv, rfl⟩ := h
  rw [← getV_om hv]
  exact get_hv hv o k.K k.N k.S k.O hN hS

/-- What is found of a key in a table or in those that stand in for it, by lists. -/
def lookM (L : List Om) (k : V4) : Nat → Int → V4
  | 0, _ => V0
  | n + 1, o => match tabM L o with
    | none => V0
    | some x => if (getVal L o k).K ≠ 0 then getVal L o k else if x.M.K = 0 then V0 else lookM L k n x.M.O
/-- No value that is held is nil. -/
def Nn (L : List Om) : Prop := ∀ x ∈ L, ∀ v ∈ x.vs, v.K ≠ 0
theorem lookM_bad (L : List Om) (k : V4) (hk : ¬ kok k.K k.N = true) (n : Nat) (o : Int) : lookM L k n o = V0 := by
  induction n generalizing o with
  | zero => rfl
  | succ n ih =>
    rw [lookM]
    cases ht : tabM L o with
    | none => rfl
    | some x =>
      have hg : getVal L o k = V0 := by unfold getVal; rw [ht]; simp only; rw [if_neg hk]
      simp only
      rw [hg, if_neg (by decide), ih]
      split <;> rfl
theorem fnd_nn {os : List Ob} (hn : Nn (os.map Ob.om)) {o : Int} {x : Ob} (ht : tabOf os o = some x) (K N : Int) (S : ByteArray) (O : Int) (h0 : (fndV (ofKey K N S O x.es)).K = 0) : fndV (ofKey K N S O x.es) = V0 := by
  cases hf : ofKey K N S O x.es with
  | none => rfl
  | some f =>
    exfalso
    rw [hf] at h0
    obtain ⟨i, tb, ho, hi, htb⟩ := tabOf_some ht
    have h1 : f ∈ x.es := List.mem_of_find?_eq_some hf
    exact hn x.om (List.mem_map_of_mem (List.mem_of_getElem? hi)) f.v4 (List.mem_map_of_mem h1) h0
theorem lookF_om {w : World} {hb lim used : Nat} {R : Value} {os : List Ob} {Z : Nat → Prop} (h : Hv w hb lim used R os Z) (hn : Nn (os.map Ob.om)) (k : V4) (hk : kok k.K k.N = true) (n : Nat) (o : Int) (x : Ob) (ht : tabOf os o = some x) :
    lookF os (yK k.K k.N) (yN k.K k.N) (yS k.K k.N k.S) (yO k.K k.N k.O) n x = lookM (os.map Ob.om) k (n + 1) o := by
  induction n generalizing o x with
  | zero =>
    rw [lookF, lookM, tabM_of h ht]
    simp only
    rw [getVal_om h ht k hk]
    split
    · rfl
    · next c =>
      rw [fnd_nn hn ht _ _ _ _ (by omega)]
      split <;> rfl
  | succ n ih =>
    rw [lookF, lookM, tabM_of h ht]
    simp only
    rw [getVal_om h ht k hk]
    show _ = if (fndV (ofKey (yK k.K k.N) (yN k.K k.N) (yS k.K k.N k.S) (yO k.K k.N k.O) x.es)).K ≠ 0 then _ else if x.M.K = 0 then V0 else lookM (os.map Ob.om) k (n + 1) x.M.O
    have hz := fnd_nn hn ht (yK k.K k.N) (yN k.K k.N) (yS k.K k.N k.S) (yO k.K k.N k.O)
    generalize fndV (ofKey (yK k.K k.N) (yN k.K k.N) (yS k.K k.N k.S) (yO k.K k.N k.O) x.es) = F at *
    by_cases c : F.K = 0
    · by_cases d : x.M.K = 0
      · rw [if_neg (fun e : F.K = 0 ∧ x.M.K ≠ 0 => e.2 d), if_neg (fun e : F.K ≠ 0 => e c), if_pos d]
        exact hz c
      · rw [if_pos (And.intro c d), if_neg (fun e : F.K ≠ 0 => e c), if_neg d]
        cases hy : tabOf os x.M.O with
        | none =>
          rw [lookM, (tabM_none h).2 hy]
        | some y => exact ih _ _ hy
    · rw [if_neg (fun d : F.K = 0 ∧ x.M.K ≠ 0 => c d.1), if_pos c]
theorem lookV_om {w : World} {hb lim used : Nat} {R : Value} {os : List Ob} {Z : Nat → Prop} (h : Hv w hb lim used R os Z) (hn : Nn (os.map Ob.om)) (o : Int) (k : V4) : lookV os o k.K k.N k.S k.O = lookM (os.map Ob.om) k 17 o := by
  cases ht : tabOf os o with
  | none => unfold lookV; rw [ht, lookM, (tabM_none h).2 ht]
  | some x =>
    by_cases hk : kok k.K k.N = true
    · unfold lookV
      rw [ht]
      simp only
      rw [if_pos hk]
      exact lookF_om h hn k hk 16 o x ht
    · rw [lookM_bad _ k hk]
      unfold lookV
      rw [ht]
      simp only
      rw [if_neg hk]
theorem llook_any {w : World} {hb lim : Nat} {L : List Om} {Z : Nat → Prop} (h : LH w hb lim L Z) (hn : Nn L) (o : Int) (k : V4) (hN : U64 k.N) (hS : k.S.size ≤ 9223372036854775807) :
    Calls Tryz.prog 39 #[.pointer (some ⟨hb, 0, none⟩), .int .i64 o, .agg #[.int .i64 k.K, .int .u64 k.N, .string k.S, .int .i64 k.O]] w fun e w' => e = .returned (.agg #[.int .i64 (lookM L k 17 o).K, .int .u64 (lookM L k 17 o).N, .string (lookM L k 17 o).S, .int .i64 (lookM L k 17 o).O]) ∧ Below w.heap.size w w' := by
  obtain ⟨used, R, os, hv, rfl⟩ := h
  rw [← lookV_om hv hn]
  exact look_hv hv o k.K k.N k.S k.O hN hS

end Go.Proofs.YthmocdabakkfhaaGreatDoor
