/-
  SnapSaves: a snapshot becomes bytes, or is refused, and comes back, walked.
-/
import Derived.Test.YtjngknnkffbnmaaDoorSnLivesq
import Derived.Test.YtjngknnkffbnmaaDoorSnOwnq
import Derived.Test.YtjngknnkffbnmaaDoorSnSmallq
import Derived.Test.YtjngknnkffbnmaaDoorSnRef9q
namespace Go.Proofs.YtjngknnkffbnmaaDoor
set_option maxRecDepth 100000
open Go.RowKit Crc Sn

namespace Sn
theorem wanted_if {c : Bool} {A E : Prop} (h : c = true) (a : A) : if c = true then A else E := by rw [if_pos h]; exact a
theorem save_err {s : Sp} {y : Nat} (h : saveV s = .inl y) : y = 1 ∨ y = 2 := by
  unfold saveV at h
  split at h
  · injection h with h; omega
  · split at h
    · injection h with h; omega
    · cases e : encT (snapT s) 64 [] with
      | inl z =>
        rw [e] at h
        injection h with h
        have := enc_err _ _ _ _ e
        omega
      | inr m => rw [e] at h; cases h
def bsR (r : Nat ⊕ List Nat) : ByteArray := match r with
  | .inl _ => bsN []
  | .inr m => bsN m
def erR (r : Nat ⊕ List Nat) : Int := match r with
  | .inl y => (y : Int)
  | .inr _ => 0
theorem encV_conv {r : Nat ⊕ List Nat} {B : Nat} {w : World} {v : Value} {x : Int} (h : EncV r B w v x) : (∃ a n c, v = .slice a n c) ∧ (∃ T : ByteArray, T = bsR r ∧ ∀ w', Below w.heap.size w w' → (convert 31 9 v).run Tryd.prog w' = .ok (.string T) w') ∧ x = erR r := by
  cases r with
  | inl y =>
    obtain ⟨rfl, rfl⟩ := h
    exact ⟨⟨_, _, _, rfl⟩, ⟨_, rfl, fun w' _ => conv_any ⟨fun d hd => by simp at hd, none, 0, rfl, Nat.le_refl _, by unfold maxLen; omega, Or.inl ⟨rfl, rfl⟩⟩⟩, rfl⟩
  | inr m =>
    obtain ⟨ho, rfl⟩ := h
    obtain ⟨a, c, e⟩ := ownsRow_slice ho.2
    exact ⟨⟨a, _, c, e⟩, ⟨_, rfl, fun w' hb => conv_any (ho.br.below hb (Nat.le_refl _))⟩, rfl⟩
end Sn

set_option maxHeartbeats 8000000 in
theorem snapSaves_walk (z : Sp) (mv : Value) (k1 k2 : Int) (n1 n2 : Nat) (s1 s2 : ByteArray) (u1 u2 : Value) (w : World) (hm : NR w mv z.ms) (h1 : CR w z.ss (cellV k1 n1 s1 u1)) (h2 : CR w z.st (cellV k2 n2 s2 u2)) (hix : z.ix < 18446744073709551616) (htm : z.tm < 18446744073709551616) (hs1 : ST z.ss) (hs2 : ST z.st) (hT : Tb w) (h0 : 0 < w.heap.size) :
    Calls Tryd.prog 3 #[.agg #[.int .u64 z.ix, .int .u64 z.tm, mv, .int .i64 k1, .int .u64 n1, .string s1, u1, .int .i64 k2, .int .u64 n2, .string s2, u2]] w fun e w' => e = .returned (.bool true) ∧ Below w.heap.size w w' := by
  obtain ⟨i0, hi0, hz0, hz1, hz2⟩ := info_parts infoInt
  have HLV : Hid (∀ w', Below w.heap.size w w' → Calls Tryd.prog 8 #[] w' fun e w'' => e = .returned (.bool true) ∧ Below w'.heap.size w' w'') := fun w' hb => slives_any w' (hT.below hb h0) (Nat.lt_of_lt_of_le h0 hb.size)
  have HSM1 : Hid (∀ w', Below w.heap.size w w' → Calls Tryd.prog 7 #[cellV k1 n1 s1 u1] w' fun e w'' => ∃ ok : Bool, e = .returned (.bool ok) ∧ (ok = true → z.ss.cnt ≤ 2000 ∧ z.ss.dep ≤ 100) ∧ Below w'.heap.size w' w'') := fun w' hb => lawSmall19_any _ _ w' (h1.kept hb (Nat.le_refl _))
  have HSM2 : Hid (∀ w', Below w.heap.size w w' → Calls Tryd.prog 7 #[cellV k2 n2 s2 u2] w' fun e w'' => ∃ ok : Bool, e = .returned (.bool ok) ∧ (ok = true → z.st.cnt ≤ 2000 ∧ z.st.dep ≤ 100) ∧ Below w'.heap.size w' w'') := fun w' hb => lawSmall19_any _ _ w' (h2.kept hb (Nat.le_refl _))
  have HOW : Hid (z.ms.length ≤ 1000 → z.ss.cnt ≤ 2000 → z.st.cnt ≤ 2000 → ∀ w', Below w.heap.size w w' → Calls Tryd.prog 10 #[.agg #[.int .u64 z.ix, .int .u64 z.tm, mv, .int .i64 k1, .int .u64 n1, .string s1, u1, .int .i64 k2, .int .u64 n2, .string s2, u2]] w' (OwR w' z)) := fun hl c1 c2 w' hb => lawOwn19_any z mv k1 k2 n1 n2 s1 s2 u1 u2 w' (hm.kept hb (Nat.le_refl _)) (by omega) (h1.kept hb (Nat.le_refl _)) (h2.kept hb (Nat.le_refl _)) (by omega) (by omega)
  have HSV : Hid (∀ mv' k1' k2' n1' n2' s1' s2' u1' u2' w', NR w' mv' z.ms → CR w' z.ss (cellV k1' n1' s1' u1') → CR w' z.st (cellV k2' n2' s2' u2') → Below w.heap.size w w' → Calls Tryd.prog 9 #[.agg #[.int .u64 z.ix, .int .u64 z.tm, mv', .int .i64 k1', .int .u64 n1', .string s1', u1', .int .i64 k2', .int .u64 n2', .string s2', u2']] w' (Encd (saveV z) w')) := fun mv' k1' k2' n1' n2' s1' s2' u1' u2' w' g1 g2 g3 hb => lSave_any z mv' k1' k2' n1' n2' s1' s2' u1' u2' w' g1 g2 g3 hix htm (hT.below hb h0) (Nat.lt_of_lt_of_le h0 hb.size)
  have HRS : Hid (z.ms.length ≤ 1000 → z.ss.cnt ≤ 2000 → z.st.cnt ≤ 2000 → ∀ w', Below w.heap.size w w' → Calls Tryd.prog 11 #[.agg #[.int .u64 z.ix, .int .u64 z.tm, mv, .int .i64 k1, .int .u64 n1, .string s1, u1, .int .i64 k2, .int .u64 n2, .string s2, u2]] w' (Encd (saveV z) w')) := fun hl c1 c2 w' hb => rSave_any z mv k1 k2 n1 n2 s1 s2 u1 u2 w' (hm.kept hb (Nat.le_refl _)) (h1.kept hb (Nat.le_refl _)) (h2.kept hb (Nat.le_refl _)) hix htm (by omega) (by omega) (by omega) hs1 hs2
  have HME : Hid (∀ u' w', NR w' u' z.ms → Calls Tryd.prog 12 #[u'] w' fun e w'' => e = .returned (.bool (memB z.ms)) ∧ Below w'.heap.size w' w'') := fun u' w' hn => lMembers_any _ _ _ hn
  have HRM : Hid (z.ms.length ≤ 1000 → ∀ w', Below w.heap.size w w' → Calls Tryd.prog 13 #[mv] w' fun e w'' => e = .returned (.bool (memB z.ms)) ∧ Below w'.heap.size w' w'') := fun hl w' hb => rMembers_any _ _ _ (hm.kept hb (Nat.le_refl _)) (by omega)
  have HLD : Hid (∀ m, saveV z = .inr m → ∀ v' w', BR w' v' m → Below w.heap.size w w' → Calls Tryd.prog 14 #[v'] w' (LdP w' (plainS z) 0)) := by
    intro m he v' w' hb hbl
    have := lLoad_any v' m w' hb (hT.below hbl h0) (Nat.lt_of_lt_of_le h0 hbl.size)
    unfold LdR at this
    rw [snap_back he (nt_snap h1.nt h2.nt hix htm) hb.1] at this
    exact this
  have HSN : Hid (z.ms.length ≤ 1000 → ∀ mv' k1' k2' n1' n2' s1' s2' u1' u2' w', NR w' mv' z.ms → CR w' (cpT z.ss) (cellV k1' n1' s1' u1') → CR w' (cpT z.st) (cellV k2' n2' s2' u2') → Below w.heap.size w w' → Calls Tryd.prog 15 #[.agg #[.int .u64 z.ix, .int .u64 z.tm, mv', .int .i64 k1', .int .u64 n1', .string s1', u1', .int .i64 k2', .int .u64 n2', .string s2', u2'], .agg #[.int .u64 z.ix, .int .u64 z.tm, mv, .int .i64 k1, .int .u64 n1, .string s1, u1, .int .i64 k2, .int .u64 n2, .string s2, u2]] w' fun e w'' => e = .returned (.bool true) ∧ Below w'.heap.size w' w'') :=
    fun hl mv' k1' k2' n1' n2' s1' s2' u1' u2' w' g1 g2 g3 hb => rSnaps_like (plainS z) z.ss z.st mv' mv k1' k2' k1 k2 n1' n2' n1 n2 s1' s2' s1 s2 u1' u2' u1 u2 w' g1 (hm.kept hb (Nat.le_refl _)) (by show z.ms.length ≤ _; omega) g2 g3 (h1.kept hb (Nat.le_refl _)) (h2.kept hb (Nat.le_refl _)) (same_cp _) (same_cp _)
  have HSR : Hid (∀ w', Below w.heap.size w w' → Src w' 1 mv z.ms.length (z.ms.map intV)) := fun w' hb => (hm.kept hb (Nat.le_refl _)).src
  obtain ⟨a, cap, rfl, hn1, hn2, -, -⟩ := hm.form
  obtain ⟨-, -, -, a1, c1, rfl⟩ := crTop h1
  obtain ⟨-, -, -, a2, c2, rfl⟩ := crTop h2
  have HER : Hid (∀ y, saveV z = .inl y → y = 1 ∨ y = 2) := fun y e => save_err e
  clear hm h1 h2 hT h0 hix htm hs1 hs2
  obtain ⟨ix, tm, ms, ss, st⟩ := z
  simp only at HLV HSM1 HSM2 HOW HRS HME HRM HLD HSN HSR ⊢
  generalize memB ms = MB at *
  generalize ss.l.length = m1 at *
  generalize st.l.length = m2 at *
  unfold cellV at HSM1 HSM2
  obtain ⟨w1, hw1⟩ : ∃ w1, w1 = w.alloc (.cells #[.int .u64 ix, .int .u64 tm, .slice a ms.length cap, .int .i64 k1, .int .u64 n1, .string s1, .slice a1 m1 c1, .int .i64 k2, .int .u64 n2, .string s2, .slice a2 m2 c2] 28) := ⟨_, rfl⟩
  have HS1 : Hid (w1.heap.size = w.heap.size + 1) := by show _ = _; rw [hw1]; simp
  have HB1 : Hid (Below w.heap.size w w1) := by show Below _ _ _; rw [hw1]; exact (Below.refl _ _).alloc (Nat.le_refl _) _
  have HX : Hid (∀ wq, Below w1.heap.size w1 wq → wq.heap[w.heap.size]? = some (.cells #[.int .u64 ix, .int .u64 tm, .slice a ms.length cap, .int .i64 k1, .int .u64 n1, .string s1, .slice a1 m1 c1, .int .i64 k2, .int .u64 n2, .string s2, .slice a2 m2 c2] 28 (0, 0)) ∧ Below w.heap.size w wq) := fun wq hq => by
    have := HS1.out
    refine ⟨(hq.block _ (by omega)).trans ?_, HB1.out.trans (hq.mono (by omega))⟩
    rw [hw1]
    exact heap_alloc_new _ _
  obtain ⟨x0, x1, x2, x3, x4, x5, x6, x7, x8, x9, x10⟩ := block11 (HX.out w1 (Below.refl _ _)).1
  go_enter Tryd.func3, Tryd.ntmps3
  go_upto_region 1 with fail
  rw [← hw1]
  clear hw1
  go_wp2_with fail
  refine (HSM1.out w1 HB1.out).mono ?_
  rintro e w2 ⟨ok, rfl, hok, hb2⟩
  have HB2 := hide_p hb2
  clear x0 x1 x2 x3 x4 x5 x6 x7 x8 x9 x10 hb2 HSM1
  cases ok with
  | false =>
    have hl := HLV.out w2 (HX.out w2 HB2.out).2
    clear hok
    go_wp2_with fail
    refine hl.mono ?_
    rintro e w3 ⟨rfl, hb3⟩
    have HBw : Hid (Below w.heap.size w w3) := (HX.out w2 HB2.out).2.trans (hb3.mono (HX.out w2 HB2.out).2.size)
    clear hl hb3
    go_wp2
    go_ret
    exact ⟨rfl, HBw.out⟩
  | true =>
    have HC1 := hide_p (hok rfl).1
    clear hok
    obtain ⟨x0, x1, x2, x3, x4, x5, x6, x7, x8, x9, x10⟩ := block11 (HX.out w2 HB2.out).1
    go_wp2_with fail
    refine (HSM2.out w2 (HX.out w2 HB2.out).2).mono ?_
    rintro e w3 ⟨ok, rfl, hok, hb3⟩
    have HB3 : Hid (Below w1.heap.size w1 w3) := HB2.out.trans (hb3.mono HB2.out.size)
    clear x0 x1 x2 x3 x4 x5 x6 x7 x8 x9 x10 hb3 HSM2
    cases ok with
    | false =>
      have hl := HLV.out w3 (HX.out w3 HB3.out).2
      clear hok
      go_wp2_with fail
      refine hl.mono ?_
      rintro e w4 ⟨rfl, hb4⟩
      have HBw : Hid (Below w.heap.size w w4) := (HX.out w3 HB3.out).2.trans (hb4.mono (HX.out w3 HB3.out).2.size)
      clear hl hb4
      go_wp2
      go_ret
      exact ⟨rfl, HBw.out⟩
    | true =>
      have HC2 := hide_p (hok rfl).1
      clear hok
      obtain ⟨x0, x1, x2, x3, x4, x5, x6, x7, x8, x9, x10⟩ := block11 (HX.out w3 HB3.out).1
      by_cases c : 1000 < ms.length
      · have c2 : (1000 : Int) < (ms.length : Int) := by omega
        have hl := HLV.out w3 (HX.out w3 HB3.out).2
        go_wp2_with fail
        refine hl.mono ?_
        rintro e w4 ⟨rfl, hb4⟩
        have HBw : Hid (Below w.heap.size w w4) := (HX.out w3 HB3.out).2.trans (hb4.mono (HX.out w3 HB3.out).2.size)
        clear hl hb4
        go_wp2
        go_ret
        exact ⟨rfl, HBw.out⟩
      · have c2 : ¬ (1000 : Int) < (ms.length : Int) := by omega
        have HLN := hide_p (show ms.length ≤ 1000 by omega)
        go_wp2_with fail
        refine (HOW.out HLN.out HC1.out HC2.out w3 (HX.out w3 HB3.out).2).mono ?_
        rintro e w4 ⟨a4, c4, k41, k42, n41, n42, s41, s42, u41, u42, rfl, hn4, hc41, hc42, hb4⟩
        have HB4 : Hid (Below w1.heap.size w1 w4) := HB3.out.trans (hb4.mono HB3.out.size)
        have hsv := HSV.out _ _ _ _ _ _ _ _ _ w4 hn4 hc41 hc42 (HX.out w4 HB4.out).2
        obtain ⟨-, -, -, a41, c41, rfl⟩ := crTop hc41
        obtain ⟨-, -, -, a42, c42, rfl⟩ := crTop hc42
        simp only at hsv ⊢
        clear x0 x1 x2 x3 x4 x5 x6 x7 x8 x9 x10 hn4 hc41 hc42 hb4 HOW HSV c c2
        generalize ss.l.length = m41 at *
        generalize st.l.length = m42 at *
        go_wp2_with fail
        refine hsv.mono ?_
        rintro e w5 ⟨v5, q5, rfl, hb5, hen5⟩
        have HB5 : Hid (Below w1.heap.size w1 w5) := HB4.out.trans (hb5.mono HB4.out.size)
        have HEN5 := hide_p hen5
        obtain ⟨⟨a5, m5, c5, rfl⟩, ⟨T5, hT5, hcv5⟩, hq5⟩ := encV_conv hen5
        have HCV5 := hide_p hcv5
        have HQ5 := hide_p hq5
        have HT5 := hide_p hT5
        clear hsv hb5 hen5 hcv5 hq5 hT5
        obtain ⟨x0, x1, x2, x3, x4, x5, x6, x7, x8, x9, x10⟩ := block11 (HX.out w5 HB5.out).1
        go_wp2_with fail
        refine (HRS.out HLN.out HC1.out HC2.out w5 (HX.out w5 HB5.out).2).mono ?_
        rintro e w6 ⟨v6, q6, rfl, hb6, hen6⟩
        have HB6 : Hid (Below w1.heap.size w1 w6) := HB5.out.trans (hb6.mono HB5.out.size)
        have HQ6 := hide_p hb6
        obtain ⟨⟨a6, m6, c6, rfl⟩, ⟨T6, hT6, hcv6⟩, hq6⟩ := encV_conv hen6
        have HCV6 := hide_p hcv6
        have hTT : T6 = T5 := hT6.trans HT5.out.symm
        have hqq : q5 = q6 := HQ5.out.trans hq6.symm
        clear hb6 hen6 hcv6 hT6 hq6 HT5
        subst hTT
        subst hqq
        clear x0 x1 x2 x3 x4 x5 x6 x7 x8 x9 x10 HRS
        have HK : Hid (∀ wq, Below w6.heap.size w6 wq → ((convert 31 9 (.slice a5 m5 c5)).run Tryd.prog wq = .ok (.string T6) wq ∧ (convert 31 9 (.slice a6 m6 c6)).run Tryd.prog wq = .ok (.string T6) wq ∧ wq.cell? ⟨w.heap.size, 2, none⟩ = some (.slice a ms.length cap)) ∧ Below w.heap.size w wq) := fun wq hq => by
          obtain ⟨g1, g2⟩ := HX.out wq (HB6.out.trans (hq.mono HB6.out.size))
          exact ⟨⟨HCV5.out wq (HQ6.out.trans (hq.mono HQ6.out.size)), HCV6.out wq hq, (block11 g1).2.2.1⟩, g2⟩
        have HS6 : Hid (w1.heap.size ≤ w6.heap.size) := HB6.out.size
        have hbA : Below w6.heap.size w6 (w6.alloc (.cells #[] 3)).drew := ((Below.refl _ _).alloc (Nat.le_refl _) _).drew
        have hownA : NO (w6.alloc (.cells #[] 3)).drew w6.heap.size (.slice (some ⟨w6.heap.size, 0, none⟩) 0 0) [] := made_int (Nat.le_refl _)
        have HWA : Hid (w6.heap.size ≤ (w6.alloc (.cells #[] 3)).drew.heap.size) := hbA.size
        have HQ0 : Hid (Below w6.heap.size w6 w6.drew) := (Below.refl _ _).drew
        have hsrcA := HSR.out _ (HK.out _ hbA).2
        have HLM : Hid ((ms.length : Int) ≤ 1000) := by show _ ≤ _; have := HLN.out; omega
        go_upto_region 5 with fail
        go_wp2_with fail
        go_region_held3 (fun wq => (convert 31 9 (.slice a5 m5 c5)).run Tryd.prog wq = .ok (.string T6) wq ∧ (convert 31 9 (.slice a6 m6 c6)).run Tryd.prog wq = .ok (.string T6) wq ∧ wq.cell? ⟨w.heap.size, 2, none⟩ = some (.slice a ms.length cap))
          (first | exact (HK.out _ hbD).1 | exact (HK.out _ hbC).1 | exact (HK.out _ hbB).1 | exact (HK.out _ hbA).1 | exact (HK.out _ HQ0.out).1)
          (first
            | (go_at_call 13; refine (HRM.out HLN.out _ (HK.out _ hbC).2).mono ?_; rintro e wD ⟨rfl, hbD⟩; replace hbD : Below w6.heap.size w6 wD := hbC.trans (hbD.mono hbC.size))
            | (go_at_call 12; refine (HME.out _ _ hnB).mono ?_; rintro e wC ⟨rfl, hbC⟩; replace hbC : Below w6.heap.size w6 wC := hbB.trans (hbC.mono hbB.size))
            | (refine wanted_if (by rfl) ?_; refine wp_append_src _ (.tmp 48) (.tmp 50) 23 rfl w6.heap.size 3 i0 _ 1 8 Tryd.underlying23 hi0 hz0 hz1 hz2 rfl (by decide) (.slice (some ⟨w6.heap.size, 0, none⟩) 0 0) 0 [] rfl hownA (.slice a ms.length cap) ms.length _ rfl hsrcA (by unfold maxLen; have := HLN.out; omega) (by have := HLN.out; omega) HWA.out ?_; intro aB cB wB qB1 qB2 qB3; rw [Nat.zero_add, List.nil_append] at qB1; rw [Nat.zero_add] at ⊢; have hnB : NR wB (.slice aB ms.length cB) ms := NO.nr (B := w6.heap.size) qB1; have hbB : Below w6.heap.size w6 wB := hbA.trans ((Below.refl _ _).grown qB2 HWA.out (fun k hk => (World.ownsRow.lt hownA k hk).1)))
            )
        have HBD : Hid (Below w6.heap.size w6 wD) := hbD
        have HDw := hide_p (HK.out wD hbD).2
        clear hbA hbB hbC hbD hownA hsrcA qB1 qB2 qB3 hnB HK HME HRM HSR HWA HQ0 HLM HS6
        cases hS : saveV ⟨ix, tm, ms, ss, st⟩ with
        | inl y =>
          have hen := HEN5.out
          rw [hS] at hen
          obtain ⟨e5, rfl⟩ := hen
          simp only [Value.slice.injEq] at e5
          obtain ⟨rfl, rfl, rfl⟩ := e5
          have hy := HER.out y hS
          have hl := HLV.out wD HDw.out
          clear hS HEN5 HER HLD HSN HCV5 HCV6 HQ5
          rcases hy with rfl | rfl
          · go_wp2_with fail
            refine hl.mono ?_
            rintro e wE ⟨rfl, hbE⟩
            have HBw : Hid (Below w.heap.size w wE) := HDw.out.trans (hbE.mono HDw.out.size)
            clear hl hbE
            go_wp2
            go_ret
            exact ⟨rfl, HBw.out⟩
          · go_wp2_with fail
            refine hl.mono ?_
            rintro e wE ⟨rfl, hbE⟩
            have HBw : Hid (Below w.heap.size w wE) := HDw.out.trans (hbE.mono HDw.out.size)
            clear hl hbE
            go_wp2
            go_ret
            exact ⟨rfl, HBw.out⟩
        | inr m =>
          have hen := HEN5.out
          rw [hS] at hen
          obtain ⟨ho5, rfl⟩ := hen
          have hld := HLD.out m hS (.slice a5 m5 c5) wD (ho5.br.below (HQ6.out.trans (HBD.out.mono HQ6.out.size)) (Nat.le_refl _)) HDw.out
          clear hS HEN5 HER HLD HCV5 HCV6 HQ5 ho5
          go_wp2_with fail
          refine hld.mono ?_
          rintro e wE ⟨mE, kE1, kE2, nE1, nE2, sE1, sE2, uE1, uE2, rfl, hnE, hcE1, hcE2, hbE⟩
          have HBE : Hid (Below w6.heap.size w6 wE) := HBD.out.trans (hbE.mono HBD.out.size)
          have HEw : Hid (Below w.heap.size w wE) := HDw.out.trans (hbE.mono HDw.out.size)
          obtain ⟨aE, cE, rfl, -, -, -, -⟩ := hnE.form
          obtain ⟨-, -, -, pE1, dE1, rfl⟩ := crTop hcE1
          obtain ⟨-, -, -, pE2, dE2, rfl⟩ := crTop hcE2
          have HNE := hide_p hnE
          have HCE1 := hide_p hcE1
          have HCE2 := hide_p hcE2
          clear hld hbE hnE hcE1 hcE2
          have ep : (plainS ⟨ix, tm, ms, ss, st⟩).ix = ix ∧ (plainS ⟨ix, tm, ms, ss, st⟩).tm = tm ∧ (plainS ⟨ix, tm, ms, ss, st⟩).ms = ms ∧ (plainS ⟨ix, tm, ms, ss, st⟩).ss = cpT ss ∧ (plainS ⟨ix, tm, ms, ss, st⟩).st = cpT st := ⟨rfl, rfl, rfl, rfl, rfl⟩
          obtain ⟨ep1, ep2, ep3, ep4, ep5⟩ := ep
          rw [ep1, ep2, ep3, ep4, ep5]
          rw [ep3] at HNE
          rw [ep4] at HCE1
          rw [ep5] at HCE2
          clear ep1 ep2 ep3 ep4 ep5
          generalize (cpT ss).l.length = mE1 at *
          generalize (cpT st).l.length = mE2 at *
          obtain ⟨wF, hwF⟩ : ∃ wF, wF = wE.alloc (.cells #[.int .u64 ix, .int .u64 tm, .slice aE ms.length cE, .int .i64 kE1, .int .u64 nE1, .string sE1, .slice pE1 mE1 dE1, .int .i64 kE2, .int .u64 nE2, .string sE2, .slice pE2 mE2 dE2] 28) := ⟨_, rfl⟩
          obtain ⟨bF, hbF⟩ : ∃ bF, bF = wE.heap.size := ⟨_, rfl⟩
          have HBF : Hid (Below w6.heap.size w6 wF) := by show Below _ _ _; rw [hwF]; exact HBE.out.alloc HBE.out.size _
          have HFw : Hid (Below w.heap.size w wF) := by show Below _ _ _; rw [hwF]; exact HEw.out.alloc HEw.out.size _
          have hsn := HSN.out HLN.out (.slice aE ms.length cE) kE1 kE2 nE1 nE2 sE1 sE2 (.slice pE1 mE1 dE1) (.slice pE2 mE2 dE2) wF (by rw [hwF]; exact HNE.out.kept ((Below.refl _ _).alloc (Nat.le_refl _) _) (Nat.le_refl _)) (by rw [hwF]; exact HCE1.out.kept ((Below.refl _ _).alloc (Nat.le_refl _) _) (Nat.le_refl _)) (by rw [hwF]; exact HCE2.out.kept ((Below.refl _ _).alloc (Nat.le_refl _) _) (Nat.le_refl _)) HFw.out
          obtain ⟨y0, y1, y2, y3, y4, y5, y6, y7, y8, y9, y10⟩ := block11 (show wF.heap[bF]? = some (.cells #[.int .u64 ix, .int .u64 tm, .slice aE ms.length cE, .int .i64 kE1, .int .u64 nE1, .string sE1, .slice pE1 mE1 dE1, .int .i64 kE2, .int .u64 nE2, .string sE2, .slice pE2 mE2 dE2] 28 (0, 0)) by rw [hwF, hbF]; exact heap_alloc_new _ _)
          obtain ⟨x0, x1, x2, x3, x4, x5, x6, x7, x8, x9, x10⟩ := block11 (HX.out wF (HB6.out.trans (HBF.out.mono HB6.out.size))).1
          clear HSN HNE HCE1 HCE2 HBE HEw HDw HBD
          go_upto_region 10 with fail
          rw [← hwF, ← hbF]
          clear hwF hbF
          go_wp2_with fail
          refine hsn.mono ?_
          rintro e wG ⟨rfl, hbG⟩
          have HGw : Hid (Below w.heap.size w wG) := HFw.out.trans (hbG.mono HFw.out.size)
          have hl := HLV.out wG HGw.out
          clear hsn hbG x0 x1 x2 x3 x4 x5 x6 x7 x8 x9 x10 y0 y1 y2 y3 y4 y5 y6 y7 y8 y9 y10
          go_wp2_with fail
          refine hl.mono ?_
          rintro e wH ⟨rfl, hbH⟩
          have HBw : Hid (Below w.heap.size w wH) := HGw.out.trans (hbH.mono HGw.out.size)
          clear hl hbH
          go_wp2
          go_ret
          exact ⟨rfl, HBw.out⟩

end Go.Proofs.YtjngknnkffbnmaaDoor
