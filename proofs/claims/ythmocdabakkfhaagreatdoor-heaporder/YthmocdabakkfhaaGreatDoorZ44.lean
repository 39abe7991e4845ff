/-
  HpLives, HeapBounds
-/
import Derived.Test.YthmocdabakkfhaaGreatDoorZ43

/-
  Layer 9: the law's lives.
-/
namespace Go.Proofs.YthmocdabakkfhaaGreatDoor
set_option maxRecDepth 100000
open Go.RowKit Flo

/-- The key 1 with the value 5. -/
def liveE (b : Nat) : En := ⟨b, 3, 4607182418800017408, ⟨#[]⟩, 0, hN 3 4607182418800017408 ⟨#[]⟩ 0, 3, 4617315517961601024, ⟨#[]⟩, 0⟩
theorem live_set {w : World} {hb : Nat} {R : Value} {Z : Nat → Prop} {t : Nat} (h : Hv w hb 10 1 R ([] ++ [tabO t]) Z) :
    Calls Tryz.prog 17 #[.pointer (some ⟨hb, 0, none⟩), .int .i64 1, .agg #[.int .i64 3, .int .u64 4607182418800017408, .string ⟨#[]⟩, .int .i64 0], .agg #[.int .i64 3, .int .u64 4617315517961601024, .string ⟨#[]⟩, .int .i64 0]] w fun e w' => e = .returned (.int .i64 0) ∧
      (∃ Z' b X', Hv w' hb 10 2 R [{ tabO t with es := [liveE b], X := X' }] Z') ∧ Wx Z w w' := by
  refine (Set_new h (i := 0) (x := tabO t) (tb := t) rfl rfl 1 rfl 3 4607182418800017408 ⟨#[]⟩ 0 3 4617315517961601024 ⟨#[]⟩ 0 ⟨by decide, by decide⟩ ⟨by decide, by decide⟩ (by decide) one_key.1 rfl (by decide)).mono ?_
  rintro e w' ⟨rfl, hs⟩
  obtain ⟨b, X', h1, h2⟩ := hs.2 (by decide)
  refine ⟨rfl, ⟨Zn Z w.heap.size w'.heap.size, b, X', ?_⟩, h2⟩
  rw [one_key.2.1, one_key.2.2, five_norm] at h1
  exact h1
theorem live_get {w : World} {hb : Nat} {R : Value} {Z : Nat → Prop} {t b : Nat} {X' : Nat → Prop} (h : Hv w hb 10 2 R [{ tabO t with es := [liveE b], X := X' }] Z) :
    Calls Tryz.prog 9 #[.pointer (some ⟨hb, 0, none⟩), .int .i64 1, .agg #[.int .i64 3, .int .u64 4607182418800017408, .string ⟨#[]⟩, .int .i64 0]] w fun e w' => e = .returned (.agg #[.int .i64 3, .int .u64 4617315517961601024, .string ⟨#[]⟩, .int .i64 0]) ∧ Below w.heap.size w w' := by
  have hg := get_hv h 1 3 4607182418800017408 ⟨#[]⟩ 0 ⟨by decide, by decide⟩ (by decide)
  have e : getV [{ tabO t with es := [liveE b], X := X' }] 1 3 4607182418800017408 ⟨#[]⟩ 0 = ⟨3, 4617315517961601024, ⟨#[]⟩, 0⟩ := by
    unfold getV
    rw [show tabOf [{ tabO t with es := [liveE b], X := X' }] 1 = some { tabO t with es := [liveE b], X := X' } from rfl]
    simp only
    rw [if_pos one_key.1, one_key.2.1, one_key.2.2]
    rfl
  rw [e] at hg
  exact hg
theorem live_size {w : World} {hb : Nat} {R : Value} {Z : Nat → Prop} {t b : Nat} {X' : Nat → Prop} (h : Hv w hb 10 2 R [{ tabO t with es := [liveE b], X := X' }] Z) :
    Calls Tryz.prog 19 #[.pointer (some ⟨hb, 0, none⟩), .int .i64 1] w fun e w' => e = .returned (.int .i64 1) ∧ w' = w := by
  refine (size_hv h 1).mono ?_
  rintro e w' ⟨rfl, s, rfl, hm⟩
  rw [show tabOf [{ tabO t with es := [liveE b], X := X' }] 1 = some { tabO t with es := [liveE b], X := X' } from rfl] at hm
  obtain ⟨tb, ht, hc⟩ := hm
  have ht2 : t = tb := Option.some.inj ht
  subst ht2
  obtain ⟨s2, h1, h2, h3⟩ := ((h.ob 0 _ rfl).tab t rfl).2.1.size2
  have hs : s = s2 := by
    have := hc.symm.trans h1
    injection this with this
    injection this with _ this
    omega
  subst hs
  refine ⟨?_, rfl⟩
  have hone : numE (liveE b) 1 := ⟨rfl, one_whole.1, one_whole.2⟩
  have hlt : s < 2 := by
    rcases Nat.lt_or_ge s 2 with c | c
    · exact c
    · obtain ⟨e, he, hn⟩ := h2 1 (by omega)
      rw [List.mem_singleton.1 he] at hn
      have := hn.2.2.symm.trans hone.2.2
      simp at this
  have hgt : s ≠ 0 := fun c => by
    subst c
    exact h3 (liveE b) (List.mem_singleton.2 rfl) hone
  rw [show s = 1 by omega]
  rfl

set_option maxHeartbeats 4000000 in
theorem hlives_any (w : World) (db : Db w) : Calls Tryz.prog 6 #[] w fun e w' => e = .returned (.bool true) ∧ Below w.heap.size w w' := by
  have H1 := hnew_any 10 w (by decide) db
  have HN1 : Hid (∀ w, Calls Tryz.prog 18 #[.int .i64 1] w fun e w' => e = .returned (.agg #[.int .i64 3, .int .u64 4607182418800017408, .string ⟨#[]⟩, .int .i64 0]) ∧ Below w.heap.size w w') := fun w => by
    have := number_any 1 w (by decide) (by decide)
    rw [canon_1] at this
    exact this
  have HN5 : Hid (∀ w, Calls Tryz.prog 18 #[.int .i64 5] w fun e w' => e = .returned (.agg #[.int .i64 3, .int .u64 4617315517961601024, .string ⟨#[]⟩, .int .i64 0]) ∧ Below w.heap.size w w') := fun w => by
    have := number_any 5 w (by decide) (by decide)
    rw [canon_5] at this
    exact this
  go_enter Tryz.func6, Tryz.ntmps6
  go_wp2_with fail
  refine H1.mono ?_
  rintro e w1 ⟨rfl, hv1, hb1⟩
  have HT := table_hv hv1 (by decide)
  have HB1 : Hid (Below w.heap.size w w1) := hb1
  clear H1 hv1 hb1
  go_wp2_with fail
  refine HT.mono ?_
  rintro e w2 ⟨rfl, R, Z, hv2, hx2, hz2⟩
  have HB2 : Hid (Below w.heap.size w w2) := HB1.out.trans (hx2.below (fun k hk => by rw [hk]; exact Nat.le_refl _) HB1.out.size)
  have HV2 : Hid (Hv w2 w.heap.size 10 1 R ([] ++ [tabO w1.heap.size]) Z) := hv2
  have HZ2 : Hid (∀ k, Z k → w.heap.size ≤ k) := fun k hk => by
    rcases hz2 k hk with c | c
    · rw [c]; exact Nat.le_refl _
    · have := HB1.out.size; omega
  clear HT hv2 hx2 hz2 HB1
  go_wp2_with fail
  refine (HN1.out _).mono ?_
  rintro e w3 ⟨rfl, hb3⟩
  have HB3 : Hid (Below w2.heap.size w2 w3) := hb3
  clear hb3
  go_wp2_with fail
  refine (HN5.out _).mono ?_
  rintro e w4 ⟨rfl, hb4⟩
  have HS := live_set ((HV2.out.below HB3.out).below hb4)
  have HB4 : Hid (Below w.heap.size w w4) := (HB2.out.trans (HB3.out.mono HB2.out.size)).trans (hb4.mono (by have := HB2.out.size; have := HB3.out.size; omega))
  clear hb4 HB3 HB2 HV2
  go_wp2_with fail
  refine HS.mono ?_
  rintro e w5 ⟨rfl, ⟨Z5, b, X', hv5⟩, hx5⟩
  have HB5 : Hid (Below w.heap.size w w5) := HB4.out.trans (hx5.below HZ2.out HB4.out.size)
  have HV5 : Hid (Hv w5 w.heap.size 10 2 R [{ tabO w1.heap.size with es := [liveE b], X := X' }] Z5) := hv5
  clear hv5 hx5 HS HB4 HZ2
  go_wp2_with fail
  refine (HN1.out _).mono ?_
  rintro e w6 ⟨rfl, hb6⟩
  have HV6 : Hid (Hv w6 w.heap.size 10 2 R [{ tabO w1.heap.size with es := [liveE b], X := X' }] Z5) := HV5.out.below hb6
  have HB6 : Hid (Below w.heap.size w w6) := HB5.out.trans (hb6.mono HB5.out.size)
  have HG := live_get HV6.out
  clear hb6 HV5 HB5
  go_wp2_with fail
  refine HG.mono ?_
  rintro e w7 ⟨rfl, hb7⟩
  have HV7 : Hid (Hv w7 w.heap.size 10 2 R [{ tabO w1.heap.size with es := [liveE b], X := X' }] Z5) := HV6.out.below hb7
  have HB7 : Hid (Below w.heap.size w w7) := HB6.out.trans (hb7.mono HB6.out.size)
  clear hb7 HV6 HB6 HG
  go_wp2_with fail
  refine (HN5.out _).mono ?_
  rintro e w8 ⟨rfl, hb8⟩
  have HV8 : Hid (Hv w8 w.heap.size 10 2 R [{ tabO w1.heap.size with es := [liveE b], X := X' }] Z5) := HV7.out.below hb8
  have HB8 : Hid (Below w.heap.size w w8) := HB7.out.trans (hb8.mono HB7.out.size)
  have HSz := live_size HV8.out
  have HU := used_hv HV8.out
  clear hb8 HV7 HB7
  go_wp2_with fail
  refine HSz.mono ?_
  rintro e w9 ⟨rfl, rfl⟩
  clear HSz
  go_wp2_with fail
  refine HU.mono ?_
  rintro e w9 ⟨rfl, rfl⟩
  clear HU
  go_wp2
  go_ret
  exact ⟨rfl, HB8.out⟩

end Go.Proofs.YthmocdabakkfhaaGreatDoor

/-
  HeapBounds: the law, walked.
-/
namespace Go.Proofs.YthmocdabakkfhaaGreatDoor
set_option maxRecDepth 100000
open Go.RowKit Flo

def Ac.cells (c : Ac) : List Value := [.int .i64 c.kind, .int .i64 c.o, .int .i64 c.a, .int .i64 c.b, .int .i64 c.n, .int .i64 c.k.K, .int .u64 c.k.N, .string c.k.S, .int .i64 c.k.O, .int .i64 c.v.K, .int .u64 c.v.N, .string c.v.S, .int .i64 c.v.O]
/-- The slice v reads as these calls. -/
structure Acs (w : World) (v : Value) (cs : List Ac) : Prop where
  form : ∃ a cap, v = .slice a cs.length cap ∧ (0 < cs.length → ∃ gb go, a = some ⟨gb, go, none⟩ ∧ gb < w.heap.size ∧ ∀ (j : Nat) c, cs[j]? = some c → ∀ t, t < 13 → w.cell? ⟨gb, go + j * 13 + t, none⟩ = c.cells[t]?)
  len : cs.length ≤ 9223372036854775807
  ok : ∀ c ∈ cs, c.Ok
theorem dv_new {w w1 : World} {lim : Nat} (hl : lim ≤ 1048576) (hh : Hv w1 w.heap.size lim 0 (.slice none 0 0) [] (fun k => k = w.heap.size)) (hb : Below w.heap.size w w1) (two : 1 < w.heap.size) (t : Nat) :
    Dv (w1.alloc (.cells #[.slice none 0 0, .int .i64 (lim : Int)] t)) w.heap.size w1.heap.size lim w.heap.size [] (fun k => k = w.heap.size) (fun k => k = w1.heap.size) := by
  have hba : Below w1.heap.size w1 (w1.alloc (.cells #[.slice none 0 0, .int .i64 (lim : Int)] t)) := (Below.refl _ _).alloc (Nat.le_refl _) _
  have hc : ∀ o, (w1.alloc (.cells #[.slice none 0 0, .int .i64 (lim : Int)] t)).cell? ⟨w1.heap.size, o, none⟩ = (#[.slice none 0 0, .int .i64 (lim : Int)] : Array Value)[o]? := fun o => World.cell?_alloc_at _ _ _ _ rfl
  have hlt := hh.lt w.heap.size rfl
  refine ⟨⟨0, _, [], hh.below hba, rfl⟩, ⟨.slice none 0 0, [], ⟨hc 0, hc 1, fun o => World.frozen?_alloc_at _ _ _ _ rfl, World.ownsRow_nil _ _ _ _, fun i r h => by simp at h, fun k hk => by rw [hk]; simp, rfl, fun g hg => by simp [Value.ownBlock] at hg, hl, by show 0 ≤ lim; omega⟩, rfl⟩, fun k h1 h2 => by omega, fun k h1 => by omega, fun k h1 => by have := hb.size; omega, Nat.le_trans hb.size hba.size, two⟩

end Go.Proofs.YthmocdabakkfhaaGreatDoor
