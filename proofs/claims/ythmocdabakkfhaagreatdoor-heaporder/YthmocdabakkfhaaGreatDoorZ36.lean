/-
  HpDoesP, HpDoes0
-/
import Derived.Test.YthmocdabakkfhaaGreatDoorZ35

/-
  Layer 9: both heaps side by side.
-/
namespace Go.Proofs.YthmocdabakkfhaaGreatDoor
set_option maxRecDepth 100000
open Go.RowKit Flo

/-- Both heaps are the same objects, in memory apart, not below B. -/
structure Dv (w : World) (hb db lim B : Nat) (L : List Om) (Z Q : Nat → Prop) : Prop where
  l : LH w hb lim L Z
  r : RH w db lim L Q
  ap : ∀ k, Z k → ¬ Q k
  zb : ∀ k, Z k → B ≤ k
  qb : ∀ k, Q k → B ≤ k
  le : B ≤ w.heap.size
  two : 1 < B
theorem LH.lt {w : World} {hb lim : Nat} {L : List Om} {Z : Nat → Prop} (h : LH w hb lim L Z) : ∀ k, Z k → k < w.heap.size := by
  obtain ⟨used, R, os, h1, _⟩ := h
  exact h1.lt
theorem RH.lt {w : World} {db lim : Nat} {L : List Om} {Q : Nat → Prop} (h : RH w db lim L Q) : (∀ k, Q k → k < w.heap.size) ∧ Q db := by
  obtain ⟨R, rs, h1, _⟩ := h
  exact ⟨h1.lt, h1.qd⟩
theorem RH.wx {w w' : World} {db lim : Nat} {L : List Om} {Q X : Nat → Prop} (h : RH w db lim L Q) (k : Wx X w w') (hX : ∀ g, Q g → ¬ X g) : RH w' db lim L Q := by
  obtain ⟨R, rs, h1, h2⟩ := h
  exact ⟨R, rs, h1.wx k hX, h2⟩
theorem LH.wx {w w' : World} {hb lim : Nat} {L : List Om} {Z X : Nat → Prop} (h : LH w hb lim L Z) (k : Wx X w w') (hX : ∀ g, Z g → ¬ X g) (h1 : ¬ X 1) : LH w' hb lim L Z := by
  obtain ⟨used, R, os, h2, h3⟩ := h
  exact ⟨used, R, os, h2.wx k hX h1, h3⟩
theorem Dv.below {w w' : World} {hb db lim B : Nat} {L : List Om} {Z Q : Nat → Prop} (h : Dv w hb db lim B L Z Q) (k : Below w.heap.size w w') : Dv w' hb db lim B L Z Q :=
  ⟨h.l.wx (Wx.of_below (fun _ => False) k) (fun _ _ c => c) (fun c => c), h.r.wx (Wx.of_below (fun _ => False) k) (fun _ _ c => c), h.ap, h.zb, h.qb, Nat.le_trans h.le k.size, h.two⟩
/-- Behind the landed call. -/
structure Mid (w w1 : World) (hb db lim B : Nat) (L L' : List Om) (Z Q Z' : Nat → Prop) : Prop where
  l : LH w1 hb lim L' Z'
  r : RH w1 db lim L Q
  ap : ∀ k, Z' k → ¬ Q k
  zb : ∀ k, Z' k → B ≤ k
  qb : ∀ k, Q k → B ≤ k
  low : Wx Z w w1
theorem Dv.mid {w w1 : World} {hb db lim B : Nat} {L L' : List Om} {Z Q : Nat → Prop} (h : Dv w hb db lim B L Z Q) (hp : LP w hb lim L' Z w1) : ∃ Z', Mid w w1 hb db lim B L L' Z Q Z' := by
  obtain ⟨Z', h1, h2, h3⟩ := hp
  refine ⟨Z', h1, h.r.wx h2 (fun g hg c => h.ap g c hg), fun k hk hq => ?_, fun k hk => ?_, h.qb, h2⟩
  · rcases h3 k hk with c | c
    · exact h.ap k c hq
    · have := h.r.lt.1 k hq; omega
  · rcases h3 k hk with c | c
    · exact h.zb k c
    · have := h.le; omega
theorem Mid.done {w w1 w2 : World} {hb db lim B : Nat} {L L' : List Om} {Z Q Z' : Nat → Prop} (h : Mid w w1 hb db lim B L L' Z Q Z') (hd : Dv w hb db lim B L Z Q) (hp : RP w1 db lim L' Q w2) : ∃ Q', Dv w2 hb db lim B L' Z' Q' ∧ Below B w w2 := by
  obtain ⟨Q', h1, h2, h3⟩ := hp
  have hqd := h.r.lt.2
  have hs := h.low.size
  refine ⟨Q', ⟨h.l.wx h2 (fun g hg c => h.ap g hg (c ▸ hqd)) (fun c => by have := h.qb db hqd; have := hd.two; omega), h1, fun k hk hq => ?_, h.zb, fun k hk => ?_, Nat.le_trans hd.le (Nat.le_trans hs h2.size), hd.two⟩, (h.low.below hd.zb hd.le).trans (h2.below (fun k hk => by have hk2 : k = db := hk; rw [hk2]; exact h.qb db hqd) (Nat.le_trans hd.le hs))⟩
  · rcases h3 k hq with c | c
    · exact h.ap k hk c
    · have := h.l.lt k hk; omega
  · rcases h3 k hk with c | c
    · exact h.qb k c
    · have := hd.le; omega

/-- A call, as the law has it. -/
structure Ac where
  kind : Int
  o : Int
  a : Int
  b : Int
  n : Int
  k : V4
  v : V4
structure Ac.Ok (c : Ac) : Prop where
  kn : U64 c.k.N
  vn : U64 c.v.N
  ks : c.k.S.size ≤ 9223372036854775807
def doesM (lim : Nat) (L : List Om) (c : Ac) : List Om :=
  if c.kind = 0 then (tableM lim L).2 else if c.kind = 1 then (setM lim L c.o c.k c.v).2 else if c.kind = 2 then (metaM L c.o c.v).2 else if c.kind = 3 then (makeM lim L c.o c.a c.b c.n).2 else if c.kind = 4 then (slotM L c.o c.n c.v).2 else if c.kind = 5 then (markM L c.o c.a).2 else L
def Ac.val (c : Ac) : Value := .agg #[.int .i64 c.kind, .int .i64 c.o, .int .i64 c.a, .int .i64 c.b, .int .i64 c.n, .int .i64 c.k.K, .int .u64 c.k.N, .string c.k.S, .int .i64 c.k.O, .int .i64 c.v.K, .int .u64 c.v.N, .string c.v.S, .int .i64 c.v.O]
def DP (w : World) (hb db lim B : Nat) (L : List Om) (w' : World) : Prop := ∃ Z Q, Dv w' hb db lim B L Z Q ∧ Below B w w'
theorem DP.from {w w1 w' : World} {hb db lim B : Nat} {L : List Om} (k : Below B w w1) (h : DP w1 hb db lim B L w') : DP w hb db lim B L w' := by
  obtain ⟨Z, Q, h1, h2⟩ := h
  exact ⟨Z, Q, h1, k.trans h2⟩

end Go.Proofs.YthmocdabakkfhaaGreatDoor

/-
  Layer 9: the law's does, where nothing is drawn: Table, Make, and none.
-/
namespace Go.Proofs.YthmocdabakkfhaaGreatDoor
set_option maxRecDepth 100000
open Go.RowKit Flo

set_option maxHeartbeats 1000000 in
theorem does_table {w : World} {hb db lim B : Nat} {L : List Om} {Z Q : Nat → Prop} (h : Dv w hb db lim B L Z Q) (c : Ac) (hk : c.kind = 0) :
    Calls Tryz.prog 11 #[.pointer (some ⟨hb, 0, none⟩), .pointer (some ⟨db, 0, none⟩), c.val] w fun e w' => e = .returned (.bool true) ∧ DP w hb db lim B (doesM lim L c) w' := by
  have hm : doesM lim L c = (tableM lim L).2 := by unfold doesM; rw [if_pos hk]
  rw [hm]
  obtain ⟨kind, o, a, b, n, ⟨kK, kN, kS, kO⟩, ⟨vK, vN, vS, vO⟩⟩ := c
  simp only at hk
  subst hk
  obtain ⟨w0, hw0⟩ : ∃ w0, w0 = w.alloc (.cells #[.int .i64 0, .int .i64 o, .int .i64 a, .int .i64 b, .int .i64 n, .int .i64 kK, .int .u64 kN, .string kS, .int .i64 kO, .int .i64 vK, .int .u64 vN, .string vS, .int .i64 vO] 49) := ⟨_, rfl⟩
  have hb0 : Below w.heap.size w w0 := by rw [hw0]; exact (Below.refl _ _).alloc (Nat.le_refl _) _
  have HD := hide_p (h.below hb0)
  have HB0 := hide_p (hb0.mono h.le)
  have HL := hide_p (ltable_any HD.out.l)
  have HR : Hid (∀ w1, RH w1 db lim L Q → Calls Tryz.prog 27 #[.pointer (some ⟨db, 0, none⟩)] w1 fun e w' => e = .returned (.tuple #[.int .i64 (tableM lim L).1.1, .int .i64 (tableM lim L).1.2]) ∧ RP w1 db lim (tableM lim L).2 Q w') := fun w1 h1 => by
    obtain ⟨R, rs, h2, h3⟩ := h1
    rw [← h3]
    exact rtable_any h2
  have HM : Hid (∀ w1, LP w0 hb lim (tableM lim L).2 Z w1 → ∃ Z', Mid w0 w1 hb db lim B L (tableM lim L).2 Z Q Z') := fun w1 hp => HD.out.mid hp
  clear h hb0 hm
  generalize (tableM lim L).2 = L' at *
  generalize (tableM lim L).1.1 = r1 at *
  generalize (tableM lim L).1.2 = r2 at *
  simp only [Ac.val]
  rw [hw0] at HL
  go_enter Tryz.func11, Tryz.ntmps11
  go_wp2_with fail
  refine HL.out.mono ?_
  rintro e w1 ⟨rfl, hlp⟩
  rw [← hw0] at hlp
  obtain ⟨Z', hmid⟩ := HM.out w1 hlp
  have HMID := hide_p hmid
  have HR1 := hide_p (HR.out w1 hmid.r)
  clear hlp hmid HL HR HM hw0
  go_wp2_with fail
  refine HR1.out.mono ?_
  rintro e w2 ⟨rfl, hrp⟩
  have HQ : Hid (DP w hb db lim B L' w2) := by
    obtain ⟨Q', h1, h2⟩ := HMID.out.done HD.out hrp
    exact ⟨Z', Q', h1, HB0.out.trans h2⟩
  clear hrp HR1 HMID HD
  go_wp2
  go_ret
  exact ⟨rfl, HQ.out⟩

set_option maxHeartbeats 1000000 in
theorem does_none {w : World} {hb db lim B : Nat} {L : List Om} {Z Q : Nat → Prop} (h : Dv w hb db lim B L Z Q) (c : Ac) (h0 : c.kind ≠ 0) (h1 : c.kind ≠ 1) (h2 : c.kind ≠ 2) (h3 : c.kind ≠ 3) (h4 : c.kind ≠ 4) (h5 : c.kind ≠ 5) :
    Calls Tryz.prog 11 #[.pointer (some ⟨hb, 0, none⟩), .pointer (some ⟨db, 0, none⟩), c.val] w fun e w' => e = .returned (.bool true) ∧ DP w hb db lim B (doesM lim L c) w' := by
  have hm : doesM lim L c = L := by unfold doesM; rw [if_neg h0, if_neg h1, if_neg h2, if_neg h3, if_neg h4, if_neg h5]
  rw [hm]
  obtain ⟨kind, o, a, b, n, ⟨kK, kN, kS, kO⟩, ⟨vK, vN, vS, vO⟩⟩ := c
  simp only at h0 h1 h2 h3 h4 h5
  have hb0 : Below w.heap.size w (w.alloc (.cells #[.int .i64 kind, .int .i64 o, .int .i64 a, .int .i64 b, .int .i64 n, .int .i64 kK, .int .u64 kN, .string kS, .int .i64 kO, .int .i64 vK, .int .u64 vN, .string vS, .int .i64 vO] 49)) := (Below.refl _ _).alloc (Nat.le_refl _) _
  have HQ : Hid (DP w hb db lim B L (w.alloc (.cells #[.int .i64 kind, .int .i64 o, .int .i64 a, .int .i64 b, .int .i64 n, .int .i64 kK, .int .u64 kN, .string kS, .int .i64 kO, .int .i64 vK, .int .u64 vN, .string vS, .int .i64 vO] 49))) := ⟨Z, Q, h.below hb0, hb0.mono h.le⟩
  clear h hb0 hm
  simp only [Ac.val]
  go_enter Tryz.func11, Tryz.ntmps11
  go_wp2
  go_ret
  exact ⟨rfl, HQ.out⟩

end Go.Proofs.YthmocdabakkfhaaGreatDoor
