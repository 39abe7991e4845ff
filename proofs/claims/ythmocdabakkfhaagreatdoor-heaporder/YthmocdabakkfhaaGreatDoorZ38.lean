/-
  HpDoes2, HpNn
-/
import Derived.Test.YthmocdabakkfhaaGreatDoorZ37

/-
  Layer 9: the law's does, whole.
-/
namespace Go.Proofs.YthmocdabakkfhaaGreatDoor
set_option maxRecDepth 100000
open Go.RowKit Flo

set_option maxHeartbeats 2000000 in
theorem does_make {w : World} {hb db lim B : Nat} {L : List Om} {Z Q : Nat → Prop} (h : Dv w hb db lim B L Z Q) (c : Ac) (hk : c.kind = 3) :
    Calls Tryz.prog 11 #[.pointer (some ⟨hb, 0, none⟩), .pointer (some ⟨db, 0, none⟩), c.val] w fun e w' => e = .returned (.bool true) ∧ DP w hb db lim B (doesM lim L c) w' := by
  have hm : doesM lim L c = (makeM lim L c.o c.a c.b c.n).2 := by unfold doesM; rw [if_neg (by rw [hk]; decide), if_neg (by rw [hk]; decide), if_neg (by rw [hk]; decide), if_pos hk]
  rw [hm]
  obtain ⟨kind, o, a, b, n, ⟨kK, kN, kS, kO⟩, ⟨vK, vN, vS, vO⟩⟩ := c
  simp only at hk ⊢
  subst hk
  obtain ⟨w0, hw0⟩ : ∃ w0, w0 = w.alloc (.cells #[.int .i64 3, .int .i64 o, .int .i64 a, .int .i64 b, .int .i64 n, .int .i64 kK, .int .u64 kN, .string kS, .int .i64 kO, .int .i64 vK, .int .u64 vN, .string vS, .int .i64 vO] 49) := ⟨_, rfl⟩
  have hb0 : Below w.heap.size w w0 := by rw [hw0]; exact (Below.refl _ _).alloc (Nat.le_refl _) _
  have HD := hide_p (h.below hb0)
  have HB0 := hide_p (hb0.mono h.le)
  have HL := hide_p (lmake_any HD.out.l o a b n)
  have HR : Hid (∀ w1, RH w1 db lim L Q → Calls Tryz.prog 32 #[.pointer (some ⟨db, 0, none⟩), .int .i64 o, .int .i64 a, .int .i64 b, .int .i64 n] w1 fun e w' => e = .returned (.tuple #[.int .i64 (makeM lim L o a b n).1.1, .int .i64 (makeM lim L o a b n).1.2]) ∧ RP w1 db lim (makeM lim L o a b n).2 Q w') := fun w1 h1 => by
    obtain ⟨R, rs, h2, h3⟩ := h1
    rw [← h3]
    exact rmake_any h2 o a b n
  have HM : Hid (∀ w1, LP w0 hb lim (makeM lim L o a b n).2 Z w1 → (∃ Z', Mid w0 w1 hb db lim B L (makeM lim L o a b n).2 Z Q Z') ∧ Wx Z w0 w1) := fun w1 hp => ⟨HD.out.mid hp, by obtain ⟨_, _, hx, _⟩ := hp; exact hx⟩
  have hnz : ¬ Z w.heap.size := fun c => by have := h.l.lt _ c; omega
  have b1 : w0.cell? ⟨w.heap.size, 1, none⟩ = some (.int .i64 o) := by rw [hw0]; go_simp
  have b2 : w0.cell? ⟨w.heap.size, 2, none⟩ = some (.int .i64 a) := by rw [hw0]; go_simp
  have b3 : w0.cell? ⟨w.heap.size, 3, none⟩ = some (.int .i64 b) := by rw [hw0]; go_simp
  have b4 : w0.cell? ⟨w.heap.size, 4, none⟩ = some (.int .i64 n) := by rw [hw0]; go_simp
  clear h hb0 hm
  generalize (makeM lim L o a b n).2 = L' at *
  generalize (makeM lim L o a b n).1.1 = r1 at *
  generalize (makeM lim L o a b n).1.2 = r2 at *
  simp only [Ac.val]
  rw [hw0] at HL
  go_enter Tryz.func11, Tryz.ntmps11
  go_wp2_with fail
  refine HL.out.mono ?_
  rintro e w1 ⟨rfl, hlp⟩
  rw [← hw0] at hlp
  obtain ⟨⟨Z', hmid⟩, hx⟩ := HM.out w1 hlp
  have d1 := hx.cell hnz b1
  have d2 := hx.cell hnz b2
  have d3 := hx.cell hnz b3
  have d4 := hx.cell hnz b4
  have HMID := hide_p hmid
  have HR1 := hide_p (HR.out w1 hmid.r)
  clear hlp hmid HL HR HM hw0 hx b1 b2 b3 b4
  go_wp2_with fail
  refine HR1.out.mono ?_
  rintro e w2 ⟨rfl, hrp⟩
  have HQ : Hid (DP w hb db lim B L' w2) := by
    obtain ⟨Q', h1, h2⟩ := HMID.out.done HD.out hrp
    exact ⟨Z', Q', h1, HB0.out.trans h2⟩
  clear hrp HR1 HMID HD
  go_wp2
  go_ret
  exact ⟨rfl, HQ.out⟩

/-- The law's does: both answer alike, and are alike behind it. -/
theorem does_any {w : World} {hb db lim B : Nat} {L : List Om} {Z Q : Nat → Prop} (h : Dv w hb db lim B L Z Q) (c : Ac) (hc : c.Ok) :
    Calls Tryz.prog 11 #[.pointer (some ⟨hb, 0, none⟩), .pointer (some ⟨db, 0, none⟩), c.val] w fun e w' => e = .returned (.bool true) ∧ DP w hb db lim B (doesM lim L c) w' := by
  by_cases h0 : c.kind = 0
  · exact does_table h c h0
  · by_cases h1 : c.kind = 1
    · exact does_set h c hc h1
    · by_cases h2 : c.kind = 2
      · exact does_meta h c hc h2
      · by_cases h3 : c.kind = 3
        · exact does_make h c h3
        · by_cases h4 : c.kind = 4
          · exact does_slot h c hc h4
          · by_cases h5 : c.kind = 5
            · exact does_mark h c h5
            · exact does_none h c h0 h1 h2 h3 h4 h5

/-- How many cells both use. -/
theorem lused_any {w : World} {hb lim : Nat} {L : List Om} {Z : Nat → Prop} (h : LH w hb lim L Z) : Calls Tryz.prog 20 #[.pointer (some ⟨hb, 0, none⟩)] w fun e w' => e = .returned (.int .i64 (usedM L : Int)) ∧ w' = w := by
  obtain ⟨used, R, os, hv, rfl⟩ := h
  have := used_hv hv
  rw [hv.sum, ← used_om] at this
  exact this
theorem rused2_any {w : World} {db lim : Nat} {L : List Om} {Q : Nat → Prop} (h : RH w db lim L Q) : Calls Tryz.prog 44 #[.pointer (some ⟨db, 0, none⟩)] w fun e w' => e = .returned (.int .i64 (usedM L : Int)) ∧ ∃ q, w' = w.drewN q := by
  obtain ⟨R, rs, hv, rfl⟩ := h
  rw [used_rom]
  exact rused_any hv
theorem LH.le {w : World} {hb lim : Nat} {L : List Om} {Z : Nat → Prop} (h : LH w hb lim L Z) : usedM L ≤ lim := by
  obtain ⟨used, R, os, hv, rfl⟩ := h
  rw [used_om, ← hv.sum]
  exact hv.hu

end Go.Proofs.YthmocdabakkfhaaGreatDoor

/-
  Layer 9: no held value is nil, whatever is done.
-/
namespace Go.Proofs.YthmocdabakkfhaaGreatDoor
set_option maxRecDepth 100000
open Go.RowKit Flo

theorem Nn.set {L : List Om} (h : Nn L) (i : Nat) {x : Om} (hx : ∀ v ∈ x.vs, v.K ≠ 0) : Nn (L.set i x) := by
  intro y hy
  rcases List.mem_or_eq_of_mem_set hy with c | c
  · exact h y c
  · rw [c]; exact hx
theorem Nn.snoc {L : List Om} (h : Nn L) {x : Om} (hx : x.vs = []) : Nn (L ++ [x]) := by
  intro y hy
  rcases List.mem_append.1 hy with c | c
  · exact h y c
  · rw [List.mem_singleton.1 c, hx]; intro v hv; cases hv
theorem Nn.at {L : List Om} (h : Nn L) {o : Int} {x : Om} (hx : atM L o = some x) : ∀ v ∈ x.vs, v.K ≠ 0 := by
  unfold atM at hx
  split at hx
  · exact h x (List.mem_of_getElem? hx)
  · cases hx
theorem Nn.tab {L : List Om} (h : Nn L) {o : Int} {x : Om} (hx : tabM L o = some x) : ∀ v ∈ x.vs, v.K ≠ 0 :=
  h.at (Option.filter_eq_some_iff.1 hx).1
theorem Nn.setM {L : List Om} (h : Nn L) (lim : Nat) (o : Int) (k v : V4) : Nn (setM lim L o k v).2 := by
  unfold Go.Proofs.YthmocdabakkfhaaGreatDoor.setM
  cases ht : tabM L o with
  | none => exact h
  | some x =>
    have hx := h.tab ht
    simp only
    by_cases hk : kok k.K k.N = false
    · rw [if_pos hk]; exact h
    · rw [if_neg hk]
      cases hp : placeM x.ks (keyV k) with
      | none =>
        simp only
        by_cases h0 : nK v.K = 0
        · rw [if_pos h0]; exact h
        · rw [if_neg h0]
          by_cases hu : usedM L < lim
          · rw [if_pos hu]
            refine h.set _ (fun y hy => ?_)
            rcases List.mem_append.1 hy with c | c
            · exact hx y c
            · rw [List.mem_singleton.1 c]; exact h0
          · rw [if_neg hu]; exact h
      | some j =>
        simp only
        by_cases h0 : nK v.K = 0
        · rw [if_pos h0]
          exact h.set _ (fun y hy => hx y (List.mem_of_mem_eraseIdx hy))
        · rw [if_neg h0]
          refine h.set _ (fun y hy => ?_)
          rcases List.mem_or_eq_of_mem_set hy with c | c
          · exact hx y c
          · rw [c]; exact h0
theorem Nn.does {L : List Om} (h : Nn L) (lim : Nat) (c : Ac) : Nn (doesM lim L c) := by
  unfold doesM
  split
  · unfold tableM
    split
    · exact h.snoc rfl
    · exact h
  · split
    · exact h.setM lim _ _ _
    · split
      · unfold metaM
        cases ht : tabM L c.o with
        | none => exact h
        | some x =>
          simp only
          split
          · exact h
          · exact h.set _ (fun v hv => h.tab ht v hv)
      · split
        · unfold makeM
          split
          · exact h
          · split
            · exact h.snoc rfl
            · exact h
        · split
          · unfold slotM
            cases ht : atM L c.o with
            | none => exact h
            | some x =>
              simp only
              split
              · exact h.set _ (fun v hv => h.at ht v hv)
              · exact h
          · split
            · unfold markM
              cases ht : atM L c.o with
              | none => exact h
              | some x =>
                simp only
                split
                · exact h
                · exact h.set _ (fun v hv => h.at ht v hv)
            · exact h

end Go.Proofs.YthmocdabakkfhaaGreatDoor
