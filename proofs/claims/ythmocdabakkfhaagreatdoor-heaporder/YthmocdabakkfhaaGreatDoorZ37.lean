/-
  HpDoes1
-/
import Derived.Deep.RegionHeld3
import Derived.Test.YthmocdabakkfhaaGreatDoorZ36

/-
  Layer 9: the law's does, where the order is drawn: Set, SetMeta, SetSlot, Mark.
-/
namespace Go.Proofs.YthmocdabakkfhaaGreatDoor
set_option maxRecDepth 100000
open Go.RowKit Flo

theorem keep_mark {W w' : World} {X : Nat → Prop} {B : Nat} {u0 u1 : Value} (h : W.cell? ⟨B, 1, none⟩ = some u0 ∧ W.cell? ⟨B, 2, none⟩ = some u1) (k : Wx X W w') (hX : ¬ X B) : w'.cell? ⟨B, 1, none⟩ = some u0 ∧ w'.cell? ⟨B, 2, none⟩ = some u1 := by
  obtain ⟨h0, h1⟩ := h
  exact ⟨k.cell hX h0, k.cell hX h1⟩
set_option maxHeartbeats 4000000 in
theorem does_mark {w : World} {hb db lim B : Nat} {L : List Om} {Z Q : Nat → Prop} (h : Dv w hb db lim B L Z Q) (c : Ac) (hk : c.kind = 5) :
    Calls Tryz.prog 11 #[.pointer (some ⟨hb, 0, none⟩), .pointer (some ⟨db, 0, none⟩), c.val] w fun e w' => e = .returned (.bool true) ∧ DP w hb db lim B (doesM lim L c) w' := by
  have hm : doesM lim L c = (markM L c.o c.a).2 := by unfold doesM; rw [if_neg (by rw [hk]; decide), if_neg (by rw [hk]; decide), if_neg (by rw [hk]; decide), if_neg (by rw [hk]; decide), if_neg (by rw [hk]; decide), if_pos hk]
  rw [hm]
  have HL : Hid (∀ w', Below w.heap.size w w' → Calls Tryz.prog 35 #[.pointer (some ⟨hb, 0, none⟩), .int .i64 c.o, .int .i64 c.a] w' fun e w1 => e = .returned (.int .i64 (markM L c.o c.a).1) ∧ ∃ Z', Mid w' w1 hb db lim B L (markM L c.o c.a).2 Z Q Z') := fun w' hb' => by
    refine (lmark_any (h.below hb').l c.o c.a).mono ?_
    rintro e w1 ⟨rfl, hlp⟩
    exact ⟨rfl, (h.below hb').mid hlp⟩
  have HR : Hid (∀ w' w1 Z', Below w.heap.size w w' → Mid w' w1 hb db lim B L (markM L c.o c.a).2 Z Q Z' → Calls Tryz.prog 36 #[.pointer (some ⟨db, 0, none⟩), .int .i64 c.o, .int .i64 c.a] w1 fun e w2 => e = .returned (.int .i64 (markM L c.o c.a).1) ∧ DP w hb db lim B (markM L c.o c.a).2 w2 ∧ Wx (fun k => k = db) w1 w2) := fun w' w1 Z' hb' hmid => by
    obtain ⟨R, rs, h2, h3⟩ := hmid.r
    have hd := h.below hb'
    have key := rmark_any h2 c.o c.a
    rw [h3] at key
    refine key.mono ?_
    rintro e w2 ⟨rfl, hrp⟩
    obtain ⟨Q', k1, k2⟩ := hmid.done hd hrp
    obtain ⟨_, _, hwx, _⟩ := hrp
    exact ⟨rfl, ⟨Z', Q', k1, (hb'.mono h.le).trans k2⟩, hwx⟩
  have hZ : Hid (¬ Z w.heap.size ∧ ¬ w.heap.size = db) := ⟨fun c => by have := h.l.lt _ c; omega, fun c => by have := h.r.lt.1 db h.r.lt.2; omega⟩
  clear hm h
  obtain ⟨kind, o, a, b, n, ⟨kK, kN, kS, kO⟩, ⟨vK, vN, vS, vO⟩⟩ := c
  simp only at hk HL HR ⊢
  subst hk
  have HB0 : Hid (Below w.heap.size w (w.alloc (.cells #[.int .i64 5, .int .i64 o, .int .i64 a, .int .i64 b, .int .i64 n, .int .i64 kK, .int .u64 kN, .string kS, .int .i64 kO, .int .i64 vK, .int .u64 vN, .string vS, .int .i64 vO] 49))) := (Below.refl _ _).alloc (Nat.le_refl _) _
  generalize (markM L o a).2 = L' at *
  generalize (markM L o a).1 = r at *
  simp only [Ac.val]
  go_enter Tryz.func11, Tryz.ntmps11
  go_wp2_with fail
  go_region_held3 (fun w' => w'.cell? ⟨w.heap.size, 1, none⟩ = some (.int .i64 o) ∧ w'.cell? ⟨w.heap.size, 2, none⟩ = some (.int .i64 a))
    (first
      | go_keep
      | exact keep_mark (by assumption) hmid.low hZ.out.1
      | exact keep_mark (by assumption) hwx hZ.out.2)
    (first
      | (go_at_call 35; refine (HL.out _ HB0.out.drew).mono ?_; rintro e w1 ⟨rfl, Z', hmid⟩)
      | (go_at_call 36; refine (HR.out _ _ _ HB0.out.drew hmid).mono ?_; rintro e w2 ⟨rfl, hdp, hwx⟩; have HDP := hide_p hdp; clear hdp))
  all_goals go_wp2
  all_goals go_ret
  all_goals exact ⟨rfl, HDP.out⟩

theorem keep_meta {W w' : World} {X : Nat → Prop} {B : Nat} {u0 u1 u2 u3 u4 : Value} (h : W.cell? ⟨B, 1, none⟩ = some u0 ∧ W.cell? ⟨B, 9, none⟩ = some u1 ∧ W.cell? ⟨B, 10, none⟩ = some u2 ∧ W.cell? ⟨B, 11, none⟩ = some u3 ∧ W.cell? ⟨B, 12, none⟩ = some u4) (k : Wx X W w') (hX : ¬ X B) : w'.cell? ⟨B, 1, none⟩ = some u0 ∧ w'.cell? ⟨B, 9, none⟩ = some u1 ∧ w'.cell? ⟨B, 10, none⟩ = some u2 ∧ w'.cell? ⟨B, 11, none⟩ = some u3 ∧ w'.cell? ⟨B, 12, none⟩ = some u4 := by
  obtain ⟨h0, h1, h2, h3, h4⟩ := h
  exact ⟨k.cell hX h0, k.cell hX h1, k.cell hX h2, k.cell hX h3, k.cell hX h4⟩
set_option maxHeartbeats 4000000 in
theorem does_meta {w : World} {hb db lim B : Nat} {L : List Om} {Z Q : Nat → Prop} (h : Dv w hb db lim B L Z Q) (c : Ac) (hc : c.Ok) (hk : c.kind = 2) :
    Calls Tryz.prog 11 #[.pointer (some ⟨hb, 0, none⟩), .pointer (some ⟨db, 0, none⟩), c.val] w fun e w' => e = .returned (.bool true) ∧ DP w hb db lim B (doesM lim L c) w' := by
  have hm : doesM lim L c = (metaM L c.o c.v).2 := by unfold doesM; rw [if_neg (by rw [hk]; decide), if_neg (by rw [hk]; decide), if_pos hk]
  rw [hm]
  have HL : Hid (∀ w', Below w.heap.size w w' → Calls Tryz.prog 29 #[.pointer (some ⟨hb, 0, none⟩), .int .i64 c.o, .agg #[.int .i64 c.v.K, .int .u64 c.v.N, .string c.v.S, .int .i64 c.v.O]] w' fun e w1 => e = .returned (.int .i64 (metaM L c.o c.v).1) ∧ ∃ Z', Mid w' w1 hb db lim B L (metaM L c.o c.v).2 Z Q Z') := fun w' hb' => by
    refine (lmeta_any (h.below hb').l c.o c.v hc.vn).mono ?_
    rintro e w1 ⟨rfl, hlp⟩
    exact ⟨rfl, (h.below hb').mid hlp⟩
  have HR : Hid (∀ w' w1 Z', Below w.heap.size w w' → Mid w' w1 hb db lim B L (metaM L c.o c.v).2 Z Q Z' → Calls Tryz.prog 30 #[.pointer (some ⟨db, 0, none⟩), .int .i64 c.o, .agg #[.int .i64 c.v.K, .int .u64 c.v.N, .string c.v.S, .int .i64 c.v.O]] w1 fun e w2 => e = .returned (.int .i64 (metaM L c.o c.v).1) ∧ DP w hb db lim B (metaM L c.o c.v).2 w2 ∧ Wx (fun k => k = db) w1 w2) := fun w' w1 Z' hb' hmid => by
    obtain ⟨R, rs, h2, h3⟩ := hmid.r
    have hd := h.below hb'
    have key := rmeta_any h2 c.o c.v hc.vn
    rw [h3] at key
    refine key.mono ?_
    rintro e w2 ⟨rfl, hrp⟩
    obtain ⟨Q', k1, k2⟩ := hmid.done hd hrp
    obtain ⟨_, _, hwx, _⟩ := hrp
    exact ⟨rfl, ⟨Z', Q', k1, (hb'.mono h.le).trans k2⟩, hwx⟩
  have hZ : Hid (¬ Z w.heap.size ∧ ¬ w.heap.size = db) := ⟨fun c => by have := h.l.lt _ c; omega, fun c => by have := h.r.lt.1 db h.r.lt.2; omega⟩
  clear hm h hc
  obtain ⟨kind, o, a, b, n, ⟨kK, kN, kS, kO⟩, ⟨vK, vN, vS, vO⟩⟩ := c
  simp only at hk HL HR ⊢
  subst hk
  have HB0 : Hid (Below w.heap.size w (w.alloc (.cells #[.int .i64 2, .int .i64 o, .int .i64 a, .int .i64 b, .int .i64 n, .int .i64 kK, .int .u64 kN, .string kS, .int .i64 kO, .int .i64 vK, .int .u64 vN, .string vS, .int .i64 vO] 49))) := (Below.refl _ _).alloc (Nat.le_refl _) _
  generalize (metaM L o ⟨vK, vN, vS, vO⟩).2 = L' at *
  generalize (metaM L o ⟨vK, vN, vS, vO⟩).1 = r at *
  simp only [Ac.val]
  go_enter Tryz.func11, Tryz.ntmps11
  go_wp2_with fail
  go_region_held3 (fun w' => w'.cell? ⟨w.heap.size, 1, none⟩ = some (.int .i64 o) ∧ w'.cell? ⟨w.heap.size, 9, none⟩ = some (.int .i64 vK) ∧ w'.cell? ⟨w.heap.size, 10, none⟩ = some (.int .u64 vN) ∧ w'.cell? ⟨w.heap.size, 11, none⟩ = some (.string vS) ∧ w'.cell? ⟨w.heap.size, 12, none⟩ = some (.int .i64 vO))
    (first
      | go_keep
      | exact keep_meta (by assumption) hmid.low hZ.out.1
      | exact keep_meta (by assumption) hwx hZ.out.2)
    (first
      | (go_at_call 29; refine (HL.out _ HB0.out.drew).mono ?_; rintro e w1 ⟨rfl, Z', hmid⟩)
      | (go_at_call 30; refine (HR.out _ _ _ HB0.out.drew hmid).mono ?_; rintro e w2 ⟨rfl, hdp, hwx⟩; have HDP := hide_p hdp; clear hdp))
  all_goals go_wp2
  all_goals go_ret
  all_goals exact ⟨rfl, HDP.out⟩

theorem keep_slot {W w' : World} {X : Nat → Prop} {B : Nat} {u0 u1 u2 u3 u4 u5 : Value} (h : W.cell? ⟨B, 1, none⟩ = some u0 ∧ W.cell? ⟨B, 4, none⟩ = some u1 ∧ W.cell? ⟨B, 9, none⟩ = some u2 ∧ W.cell? ⟨B, 10, none⟩ = some u3 ∧ W.cell? ⟨B, 11, none⟩ = some u4 ∧ W.cell? ⟨B, 12, none⟩ = some u5) (k : Wx X W w') (hX : ¬ X B) : w'.cell? ⟨B, 1, none⟩ = some u0 ∧ w'.cell? ⟨B, 4, none⟩ = some u1 ∧ w'.cell? ⟨B, 9, none⟩ = some u2 ∧ w'.cell? ⟨B, 10, none⟩ = some u3 ∧ w'.cell? ⟨B, 11, none⟩ = some u4 ∧ w'.cell? ⟨B, 12, none⟩ = some u5 := by
  obtain ⟨h0, h1, h2, h3, h4, h5⟩ := h
  exact ⟨k.cell hX h0, k.cell hX h1, k.cell hX h2, k.cell hX h3, k.cell hX h4, k.cell hX h5⟩
set_option maxHeartbeats 4000000 in
theorem does_slot {w : World} {hb db lim B : Nat} {L : List Om} {Z Q : Nat → Prop} (h : Dv w hb db lim B L Z Q) (c : Ac) (hc : c.Ok) (hk : c.kind = 4) :
    Calls Tryz.prog 11 #[.pointer (some ⟨hb, 0, none⟩), .pointer (some ⟨db, 0, none⟩), c.val] w fun e w' => e = .returned (.bool true) ∧ DP w hb db lim B (doesM lim L c) w' := by
  have hm : doesM lim L c = (slotM L c.o c.n c.v).2 := by unfold doesM; rw [if_neg (by rw [hk]; decide), if_neg (by rw [hk]; decide), if_neg (by rw [hk]; decide), if_neg (by rw [hk]; decide), if_pos hk]
  rw [hm]
  have HL : Hid (∀ w', Below w.heap.size w w' → Calls Tryz.prog 33 #[.pointer (some ⟨hb, 0, none⟩), .int .i64 c.o, .int .i64 c.n, .agg #[.int .i64 c.v.K, .int .u64 c.v.N, .string c.v.S, .int .i64 c.v.O]] w' fun e w1 => e = .returned (.int .i64 (slotM L c.o c.n c.v).1) ∧ ∃ Z', Mid w' w1 hb db lim B L (slotM L c.o c.n c.v).2 Z Q Z') := fun w' hb' => by
    refine (lslot_any (h.below hb').l c.o c.n c.v hc.vn).mono ?_
    rintro e w1 ⟨rfl, hlp⟩
    exact ⟨rfl, (h.below hb').mid hlp⟩
  have HR : Hid (∀ w' w1 Z', Below w.heap.size w w' → Mid w' w1 hb db lim B L (slotM L c.o c.n c.v).2 Z Q Z' → Calls Tryz.prog 34 #[.pointer (some ⟨db, 0, none⟩), .int .i64 c.o, .int .i64 c.n, .agg #[.int .i64 c.v.K, .int .u64 c.v.N, .string c.v.S, .int .i64 c.v.O]] w1 fun e w2 => e = .returned (.int .i64 (slotM L c.o c.n c.v).1) ∧ DP w hb db lim B (slotM L c.o c.n c.v).2 w2 ∧ Wx (fun k => k = db) w1 w2) := fun w' w1 Z' hb' hmid => by
    obtain ⟨R, rs, h2, h3⟩ := hmid.r
    have hd := h.below hb'
    have key := rslot_any h2 c.o c.n c.v hc.vn
    rw [h3] at key
    refine key.mono ?_
    rintro e w2 ⟨rfl, hrp⟩
    obtain ⟨Q', k1, k2⟩ := hmid.done hd hrp
    obtain ⟨_, _, hwx, _⟩ := hrp
    exact ⟨rfl, ⟨Z', Q', k1, (hb'.mono h.le).trans k2⟩, hwx⟩
  have hZ : Hid (¬ Z w.heap.size ∧ ¬ w.heap.size = db) := ⟨fun c => by have := h.l.lt _ c; omega, fun c => by have := h.r.lt.1 db h.r.lt.2; omega⟩
  clear hm h hc
  obtain ⟨kind, o, a, b, n, ⟨kK, kN, kS, kO⟩, ⟨vK, vN, vS, vO⟩⟩ := c
  simp only at hk HL HR ⊢
  subst hk
  have HB0 : Hid (Below w.heap.size w (w.alloc (.cells #[.int .i64 4, .int .i64 o, .int .i64 a, .int .i64 b, .int .i64 n, .int .i64 kK, .int .u64 kN, .string kS, .int .i64 kO, .int .i64 vK, .int .u64 vN, .string vS, .int .i64 vO] 49))) := (Below.refl _ _).alloc (Nat.le_refl _) _
  generalize (slotM L o n ⟨vK, vN, vS, vO⟩).2 = L' at *
  generalize (slotM L o n ⟨vK, vN, vS, vO⟩).1 = r at *
  simp only [Ac.val]
  go_enter Tryz.func11, Tryz.ntmps11
  go_wp2_with fail
  go_region_held3 (fun w' => w'.cell? ⟨w.heap.size, 1, none⟩ = some (.int .i64 o) ∧ w'.cell? ⟨w.heap.size, 4, none⟩ = some (.int .i64 n) ∧ w'.cell? ⟨w.heap.size, 9, none⟩ = some (.int .i64 vK) ∧ w'.cell? ⟨w.heap.size, 10, none⟩ = some (.int .u64 vN) ∧ w'.cell? ⟨w.heap.size, 11, none⟩ = some (.string vS) ∧ w'.cell? ⟨w.heap.size, 12, none⟩ = some (.int .i64 vO))
    (first
      | go_keep
      | exact keep_slot (by assumption) hmid.low hZ.out.1
      | exact keep_slot (by assumption) hwx hZ.out.2)
    (first
      | (go_at_call 33; refine (HL.out _ HB0.out.drew).mono ?_; rintro e w1 ⟨rfl, Z', hmid⟩)
      | (go_at_call 34; refine (HR.out _ _ _ HB0.out.drew hmid).mono ?_; rintro e w2 ⟨rfl, hdp, hwx⟩; have HDP := hide_p hdp; clear hdp))
  all_goals go_wp2
  all_goals go_ret
  all_goals exact ⟨rfl, HDP.out⟩

theorem keep_set {W w' : World} {X : Nat → Prop} {B : Nat} {u0 u1 u2 u3 u4 u5 u6 u7 u8 : Value} (h : W.cell? ⟨B, 1, none⟩ = some u0 ∧ W.cell? ⟨B, 5, none⟩ = some u1 ∧ W.cell? ⟨B, 6, none⟩ = some u2 ∧ W.cell? ⟨B, 7, none⟩ = some u3 ∧ W.cell? ⟨B, 8, none⟩ = some u4 ∧ W.cell? ⟨B, 9, none⟩ = some u5 ∧ W.cell? ⟨B, 10, none⟩ = some u6 ∧ W.cell? ⟨B, 11, none⟩ = some u7 ∧ W.cell? ⟨B, 12, none⟩ = some u8) (k : Wx X W w') (hX : ¬ X B) : w'.cell? ⟨B, 1, none⟩ = some u0 ∧ w'.cell? ⟨B, 5, none⟩ = some u1 ∧ w'.cell? ⟨B, 6, none⟩ = some u2 ∧ w'.cell? ⟨B, 7, none⟩ = some u3 ∧ w'.cell? ⟨B, 8, none⟩ = some u4 ∧ w'.cell? ⟨B, 9, none⟩ = some u5 ∧ w'.cell? ⟨B, 10, none⟩ = some u6 ∧ w'.cell? ⟨B, 11, none⟩ = some u7 ∧ w'.cell? ⟨B, 12, none⟩ = some u8 := by
  obtain ⟨h0, h1, h2, h3, h4, h5, h6, h7, h8⟩ := h
  exact ⟨k.cell hX h0, k.cell hX h1, k.cell hX h2, k.cell hX h3, k.cell hX h4, k.cell hX h5, k.cell hX h6, k.cell hX h7, k.cell hX h8⟩
set_option maxHeartbeats 4000000 in
theorem does_set {w : World} {hb db lim B : Nat} {L : List Om} {Z Q : Nat → Prop} (h : Dv w hb db lim B L Z Q) (c : Ac) (hc : c.Ok) (hk : c.kind = 1) :
    Calls Tryz.prog 11 #[.pointer (some ⟨hb, 0, none⟩), .pointer (some ⟨db, 0, none⟩), c.val] w fun e w' => e = .returned (.bool true) ∧ DP w hb db lim B (doesM lim L c) w' := by
  have hm : doesM lim L c = (setM lim L c.o c.k c.v).2 := by unfold doesM; rw [if_neg (by rw [hk]; decide), if_pos hk]
  rw [hm]
  have HL : Hid (∀ w', Below w.heap.size w w' → Calls Tryz.prog 17 #[.pointer (some ⟨hb, 0, none⟩), .int .i64 c.o, .agg #[.int .i64 c.k.K, .int .u64 c.k.N, .string c.k.S, .int .i64 c.k.O], .agg #[.int .i64 c.v.K, .int .u64 c.v.N, .string c.v.S, .int .i64 c.v.O]] w' fun e w1 => e = .returned (.int .i64 (setM lim L c.o c.k c.v).1) ∧ ∃ Z', Mid w' w1 hb db lim B L (setM lim L c.o c.k c.v).2 Z Q Z') := fun w' hb' => by
    refine (lset_any (h.below hb').l c.o c.k c.v hc.kn hc.vn hc.ks).mono ?_
    rintro e w1 ⟨rfl, hlp⟩
    exact ⟨rfl, (h.below hb').mid hlp⟩
  have HR : Hid (∀ w' w1 Z', Below w.heap.size w w' → Mid w' w1 hb db lim B L (setM lim L c.o c.k c.v).2 Z Q Z' → Calls Tryz.prog 28 #[.pointer (some ⟨db, 0, none⟩), .int .i64 c.o, .agg #[.int .i64 c.k.K, .int .u64 c.k.N, .string c.k.S, .int .i64 c.k.O], .agg #[.int .i64 c.v.K, .int .u64 c.v.N, .string c.v.S, .int .i64 c.v.O]] w1 fun e w2 => e = .returned (.int .i64 (setM lim L c.o c.k c.v).1) ∧ DP w hb db lim B (setM lim L c.o c.k c.v).2 w2 ∧ Wx (fun k => k = db) w1 w2) := fun w' w1 Z' hb' hmid => by
    obtain ⟨R, rs, h2, h3⟩ := hmid.r
    have hd := h.below hb'
    have key := rset_any h2 c.o c.k c.v hc.kn hc.vn
    rw [h3] at key
    refine key.mono ?_
    rintro e w2 ⟨rfl, hrp⟩
    obtain ⟨Q', k1, k2⟩ := hmid.done hd hrp
    obtain ⟨_, _, hwx, _⟩ := hrp
    exact ⟨rfl, ⟨Z', Q', k1, (hb'.mono h.le).trans k2⟩, hwx⟩
  have hZ : Hid (¬ Z w.heap.size ∧ ¬ w.heap.size = db) := ⟨fun c => by have := h.l.lt _ c; omega, fun c => by have := h.r.lt.1 db h.r.lt.2; omega⟩
  clear hm h hc
  obtain ⟨kind, o, a, b, n, ⟨kK, kN, kS, kO⟩, ⟨vK, vN, vS, vO⟩⟩ := c
  simp only at hk HL HR ⊢
  subst hk
  have HB0 : Hid (Below w.heap.size w (w.alloc (.cells #[.int .i64 1, .int .i64 o, .int .i64 a, .int .i64 b, .int .i64 n, .int .i64 kK, .int .u64 kN, .string kS, .int .i64 kO, .int .i64 vK, .int .u64 vN, .string vS, .int .i64 vO] 49))) := (Below.refl _ _).alloc (Nat.le_refl _) _
  generalize (setM lim L o ⟨kK, kN, kS, kO⟩ ⟨vK, vN, vS, vO⟩).2 = L' at *
  generalize (setM lim L o ⟨kK, kN, kS, kO⟩ ⟨vK, vN, vS, vO⟩).1 = r at *
  simp only [Ac.val]
  go_enter Tryz.func11, Tryz.ntmps11
  go_wp2_with fail
  go_region_held3 (fun w' => w'.cell? ⟨w.heap.size, 1, none⟩ = some (.int .i64 o) ∧ w'.cell? ⟨w.heap.size, 5, none⟩ = some (.int .i64 kK) ∧ w'.cell? ⟨w.heap.size, 6, none⟩ = some (.int .u64 kN) ∧ w'.cell? ⟨w.heap.size, 7, none⟩ = some (.string kS) ∧ w'.cell? ⟨w.heap.size, 8, none⟩ = some (.int .i64 kO) ∧ w'.cell? ⟨w.heap.size, 9, none⟩ = some (.int .i64 vK) ∧ w'.cell? ⟨w.heap.size, 10, none⟩ = some (.int .u64 vN) ∧ w'.cell? ⟨w.heap.size, 11, none⟩ = some (.string vS) ∧ w'.cell? ⟨w.heap.size, 12, none⟩ = some (.int .i64 vO))
    (first
      | go_keep
      | exact keep_set (by assumption) hmid.low hZ.out.1
      | exact keep_set (by assumption) hwx hZ.out.2)
    (first
      | (go_at_call 17; refine (HL.out _ HB0.out.drew).mono ?_; rintro e w1 ⟨rfl, Z', hmid⟩)
      | (go_at_call 28; refine (HR.out _ _ _ HB0.out.drew hmid).mono ?_; rintro e w2 ⟨rfl, hdp, hwx⟩; have HDP := hide_p hdp; clear hdp))
  all_goals go_wp2
  all_goals go_ret
  all_goals exact ⟨rfl, HDP.out⟩

end Go.Proofs.YthmocdabakkfhaaGreatDoor
