/-
  The landed First, walked.
-/
import Derived.Test.YtmjiaephmgngiaaDoorFrFrame
import Derived.Deep.RegionHeld3
namespace Go.Proofs.YtmjiaephmgngiaaDoor
open Go.RowKit Crc

theorem below_drewN {B : Nat} {a w : World} (h : Below B a w) (n : Nat) : Below B a (w.drewN n) := ⟨h.os, h.tape, h.output, h.size, h.block⟩
theorem Below.undrewN {B : Nat} {a b : World} {n : Nat} (h : Below B (a.drewN n) b) : Below B a b := ⟨h.os, h.tape, h.output, h.size, h.block⟩
/-- The sum of two rows that lie in one block's cells. -/
theorem sumOf2 (x : World) (g : Nat) (v1 v2 : Value) (l1 l2 : List Nat) (c1 : x.cell? ⟨g, 0, none⟩ = some v1) (c2 : x.cell? ⟨g, 1, none⟩ = some v2) (h1 : BR x v1 l1) (h2 : BR x v2 l2) (hT : Tb x) :
    Calls Tryd.prog 19 #[.slice (some ⟨g, 0, none⟩) 2 2] x fun e w' => e = .returned (.int .u32 (sumN (l1 ++ l2) : Nat)) ∧ w' = x := by
  have := sumOf_any g 2 [v1, v2] [l1, l2] x rfl (by decide) hT (by
    intro j hj
    have : j = 0 ∨ j = 1 := by omega
    rcases this with rfl | rfl
    · exact ⟨c1, h1⟩
    · exact ⟨c2, h2⟩)
  rw [show ([l1, l2] : List (List Nat)).flatten = l1 ++ l2 by simp] at this
  exact this

/-- What First tells: what was framed, how many bytes, which error. -/
def frsD (l : List Nat) : List Nat := (l.drop 8).take (w4 l)
def frsE (l : List Nat) : Nat :=
  if l.length < 8 then 3 else if 1048576 < w4 l then 2 else if l.length - 8 < w4 l then 3 else if sumN (l.take 4 ++ frsD l) ≠ w4 (l.drop 4) then 4 else 0
def frsB (l : List Nat) : List Nat := if frsE l = 0 then frsD l else []
def frsN (l : List Nat) : Nat := if frsE l = 0 then 8 + w4 l else 0
theorem frsD_length {l : List Nat} (h : ¬ l.length - 8 < w4 l) : (frsD l).length = w4 l := by
  unfold frsD; rw [List.length_take, List.length_drop]; omega

theorem frsD_sm {l : List Nat} (h : Sm8 l) : Sm8 (frsD l) := by
  unfold frsD
  exact (h.drop 8).take _
theorem own_framed {w w5 w6 : World} {l : List Nat} {v' : Value} {k : Nat} (hS : Sm8 l) (hB : frsB l = frsD l) (hD : (frsD l).length = k) (hb : Below w.heap.size w w5)
    (hown : w6.ownsRow w.heap.size 5 1 v' (0 + k) ([] ++ c8 (frsD l))) (hgrow : w5.grownBy w6 (Value.slice none 0 0).ownBlock) : OW w6 w.heap.size v' (frsB l) ∧ Below w.heap.size w w6 := by
  refine ⟨⟨?_, ?_⟩, hb.grown hgrow hb.size (fun k hk => by cases hk)⟩
  · rw [hB]; exact frsD_sm hS
  · rw [hB, hD]
    rw [Nat.zero_add, List.nil_append] at hown
    exact hown

/-- The answer First gives. -/
def FA (w : World) (l : List Nat) (e : Ending) (w' : World) : Prop :=
  ∃ v', e = .returned (.tuple #[v', .int .i64 (frsN l : Nat), .int .i64 (frsE l : Nat)]) ∧ OW w' w.heap.size v' (frsB l) ∧ Below w.heap.size w w'
theorem OW_nil (w : World) (B : Nat) : OW w B (.slice none 0 0) [] := ⟨fun d hd => (by cases hd), World.ownsRow_nil w B _ _⟩
theorem FA_bad {w w' : World} {l : List Nat} {k : Nat} (h : frsE l = k) (hk : k ≠ 0) (hb : Below w.heap.size w w') : FA w l (.returned (.tuple #[.slice none 0 0, .int .i64 0, .int .i64 (k : Nat)])) w' := by
  have h2 : ¬ frsE l = 0 := by omega
  refine ⟨.slice none 0 0, ?_, ?_, hb⟩
  · unfold frsN; rw [if_neg h2, h]; rfl
  · unfold frsB; rw [if_neg h2]; exact OW_nil _ _

theorem first_short (v : Value) (l : List Nat) (w : World) (h : BR w v l) (hl : l.length < 8) : Calls Tryd.prog 13 #[v] w (FA w l) := by
  have HE : Hid (frsE l = 3) := by show _ = _; unfold frsE; rw [if_pos hl]
  obtain ⟨_, a, cap, rfl, h3, h4, _⟩ := h
  have hi : (l.length : Int) < 8 := by omega
  generalize l.length = n at *
  go_enter Tryd.func13, Tryd.ntmps13
  go_wp2
  go_ret3
  exact FA_bad HE.out (by decide) (Below.refl _ _)

set_option maxRecDepth 100000 in
set_option maxHeartbeats 3200000 in
theorem first_ok (l : List Nat) (w : World) (b o o2 n cap k sm : Nat) (h4 : cap ≤ 2 ^ 63 - 1) (h3 : n ≤ cap) (hl : ¬ n < 8) (hwl : k < 4294967296)
    (hw : Calls Tryd.prog 21 #[.slice (some ⟨b, o, none⟩) n cap] w fun e w' => e = .returned (.int .u32 (k : Int)) ∧ ∃ q, w' = w.drewN q)
    (HK : Hid (k = w4 l)) (HS : Hid (Sm8 l)) (c1 : ¬ 1048576 < k) (c2 : ¬ n - 8 < k)
    (hsl : (if cap = 8 then some (⟨b, o, none⟩ : Addr) else some ⟨b, o + 8, none⟩) = some ⟨b, o2, none⟩)
    (HD : Hid (BR w (.slice (some ⟨b, o2, none⟩) k (cap - 8)) (frsD l))) (HDl : Hid ((frsD l).length = k))
    (HBm : Hid (∀ m, Below w.heap.size w ((w.drewN m).alloc (.cells #[.slice (some ⟨b, o, none⟩) 4 cap, .slice (some ⟨b, o2, none⟩) k (cap - 8)] 22))))
    (HSum : Hid (∀ m, Calls Tryd.prog 19 #[.slice (some ⟨w.heap.size, 0, none⟩) 2 2] ((w.drewN m).alloc (.cells #[.slice (some ⟨b, o, none⟩) 4 cap, .slice (some ⟨b, o2, none⟩) k (cap - 8)] 22)) fun e w' => e = .returned (.int .u32 (sm : Int)) ∧ w' = (w.drewN m).alloc (.cells #[.slice (some ⟨b, o, none⟩) 4 cap, .slice (some ⟨b, o2, none⟩) k (cap - 8)] 22)))
    (HWrd : Hid (∀ m, Calls Tryd.prog 21 #[.slice (some ⟨b, o + 4, none⟩) (n - 4) (cap - 4)] ((w.drewN m).alloc (.cells #[.slice (some ⟨b, o, none⟩) 4 cap, .slice (some ⟨b, o2, none⟩) k (cap - 8)] 22)) fun e w' => e = .returned (.int .u32 (sm : Int)) ∧ ∃ q, w' = ((w.drewN m).alloc (.cells #[.slice (some ⟨b, o, none⟩) 4 cap, .slice (some ⟨b, o2, none⟩) k (cap - 8)] 22)).drewN q))
    (HE : Hid (frsE l = 0)) : Calls Tryd.prog 13 #[.slice (some ⟨b, o, none⟩) n cap] w (FA w l) := by
  have hi : ¬ (n : Int) < 8 := by omega
  have c1i : ¬ (1048576 : Int) < (k : Int) := by omega
  have hn8 : (8 : Int) ≤ (n : Int) := by omega
  have hn9 : (8 : Int) ≤ (cap : Int) := by omega
  have c2i : ¬ (n : Int) - 8 < (k : Int) := by omega
  have c2j : (k : Int) ≤ (cap : Int) - 8 := by omega
  have c2k : k ≤ cap - 8 := by omega
  have c2l : ¬ n - 8 < k := c2
  have k4 : ¬ cap = 4 := by omega
  have k5 : (4 : Int) ≤ (cap : Int) := by omega
  have k6 : (4 : Int) ≤ (n : Int) := by omega
  have k7 : (0 : Int) ≤ (k : Int) := by omega
  have HE0 : Hid (frsE l = 0) := by show _ = _; rw [HE.out]
  have HB0 : Hid (frsB l = frsD l ∧ frsN l = 8 + k) := by
    unfold frsB frsN
    rw [if_pos HE0.out, if_pos HE0.out, ← HK.out]; exact ⟨rfl, rfl⟩
  have hsc : ((sm : Int) != (sm : Int)) = false := by simp
  obtain ⟨i0, hi0, hz0, hz1, hz2⟩ := info_parts info8
  go_enter Tryd.func13, Tryd.ntmps13
  go_wp2_with fail
  refine hw.mono ?_
  rintro e w1 ⟨rfl, q, rfl⟩
  go_wp2_with fail
  go_region_held3 (fun w' => True) (trivial)
    (first
      | (go_at_call 19; refine (HSum.out _).mono ?_; rintro e w2 ⟨rfl, rfl⟩)
      | (go_at_call 21; refine (HWrd.out _).mono ?_; rintro e w3 ⟨rfl, q3, rfl⟩))
  have hb5 := below_drewN (HBm.out (q + 1)) q3
  generalize ((w.drewN (q + 1)).alloc (.cells #[.slice (some ⟨b, o, none⟩) 4 cap, .slice (some ⟨b, o2, none⟩) k (cap - 8)] 22)).drewN q3 = w5 at *
  have z5 := hb5.size
  have hD5 := HD.out.below hb5 (Nat.le_refl _)
  have HC : Hid (∀ j u, (c8 (frsD l))[j]? = some u → w5.cell? ((⟨b, o2, none⟩ : Addr).add j) = some u) := by
    intro j u hu
    obtain ⟨e1, rfl⟩ := c8_at hu
    obtain ⟨y, e, hy, _⟩ := hD5.cell e1
    obtain rfl := Option.some.inj e
    exact hy
  have ho := c8_one (frsD l)
  have hd : (c8 (frsD l)).length = k * 1 := by rw [c8_length, HDl.out]; omega
  have HB5 : Hid (Below w.heap.size w w5) := hb5
  have hnil : w5.ownsRow w.heap.size 5 1 (.slice none 0 0) 0 [] := World.ownsRow_nil _ _ _ _
  generalize cap - 8 = C8 at *
  clear hb5 hD5
  go_wp2_with (at_builtin; refine wpList_append_own _ rfl _ _ 22 rfl w.heap.size 5 i0 (.int .u8 0) 1 1 Tryd.underlying22 hi0 hz0 hz1 hz2 rfl (by decide) (.slice none 0 0) 0 [] rfl hnil ⟨b, o2, none⟩ k C8 (c8 (frsD l)) rfl hd HC.out ho (by unfold maxLen; omega) (by omega) (by omega) ?_; intro v' w6 hown hgrow hiff; clear hiff)
  have HQ : Hid (OW w6 w.heap.size v' (frsB l) ∧ Below w.heap.size w w6) := own_framed HS.out HB0.out.1 HDl.out HB5.out hown hgrow
  have HNn : Hid (frsN l = 8 + k) := HB0.out.2
  clear hown hgrow
  go_wp2
  go_ret3
  refine ⟨_, ?_, HQ.out⟩
  have e8 : ((8 + k : Nat) : Int) = 8 + (k : Int) := by omega
  rw [HE0.out, HNn.out, e8]
  rfl

set_option maxRecDepth 100000 in
set_option maxHeartbeats 3200000 in
set_option linter.unusedVariables false in
theorem first_form (l : List Nat) (w : World) (b o o2 n cap k sm wd : Nat) (h4 : cap ≤ 2 ^ 63 - 1) (h3 : n ≤ cap) (hl : ¬ n < 8) (hwl : k < 4294967296)
    (hw : Calls Tryd.prog 21 #[.slice (some ⟨b, o, none⟩) n cap] w fun e w' => e = .returned (.int .u32 (k : Int)) ∧ ∃ q, w' = w.drewN q)
    (HK : Hid (k = w4 l)) (HS : Hid (Sm8 l)) (c1 : ¬ 1048576 < k) (c2 : ¬ n - 8 < k)
    (hsl : (if cap = 8 then some (⟨b, o, none⟩ : Addr) else some ⟨b, o + 8, none⟩) = some ⟨b, o2, none⟩)
    (HD : Hid (BR w (.slice (some ⟨b, o2, none⟩) k (cap - 8)) (frsD l))) (HDl : Hid ((frsD l).length = k))
    (HBm : Hid (∀ m, Below w.heap.size w ((w.drewN m).alloc (.cells #[.slice (some ⟨b, o, none⟩) 4 cap, .slice (some ⟨b, o2, none⟩) k (cap - 8)] 22))))
    (HSum : Hid (∀ m, Calls Tryd.prog 19 #[.slice (some ⟨w.heap.size, 0, none⟩) 2 2] ((w.drewN m).alloc (.cells #[.slice (some ⟨b, o, none⟩) 4 cap, .slice (some ⟨b, o2, none⟩) k (cap - 8)] 22)) fun e w' => e = .returned (.int .u32 (sm : Int)) ∧ w' = (w.drewN m).alloc (.cells #[.slice (some ⟨b, o, none⟩) 4 cap, .slice (some ⟨b, o2, none⟩) k (cap - 8)] 22)))
    (HWrd : Hid (∀ m, Calls Tryd.prog 21 #[.slice (some ⟨b, o + 4, none⟩) (n - 4) (cap - 4)] ((w.drewN m).alloc (.cells #[.slice (some ⟨b, o, none⟩) 4 cap, .slice (some ⟨b, o2, none⟩) k (cap - 8)] 22)) fun e w' => e = .returned (.int .u32 (wd : Int)) ∧ ∃ q, w' = ((w.drewN m).alloc (.cells #[.slice (some ⟨b, o, none⟩) 4 cap, .slice (some ⟨b, o2, none⟩) k (cap - 8)] 22)).drewN q))
    (HE : Hid (frsE l = 4)) (c3 : ¬ sm = wd) : Calls Tryd.prog 13 #[.slice (some ⟨b, o, none⟩) n cap] w (FA w l) := by
  have hi : ¬ (n : Int) < 8 := by omega
  have c1i : ¬ (1048576 : Int) < (k : Int) := by omega
  have hn8 : (8 : Int) ≤ (n : Int) := by omega
  have hn9 : (8 : Int) ≤ (cap : Int) := by omega
  have c2i : ¬ (n : Int) - 8 < (k : Int) := by omega
  have c2j : (k : Int) ≤ (cap : Int) - 8 := by omega
  have c2k : k ≤ cap - 8 := by omega
  have c2l : ¬ n - 8 < k := c2
  have k4 : ¬ cap = 4 := by omega
  have k5 : (4 : Int) ≤ (cap : Int) := by omega
  have k6 : (4 : Int) ≤ (n : Int) := by omega
  have k7 : (0 : Int) ≤ (k : Int) := by omega
  have HE2 : Hid (frsE l = 4) := by show _ = _; rw [HE.out]
  have c3b : ((sm : Int) == (wd : Int)) = false := by rw [beq_eq_false_iff_ne]; omega
  have c3c : ((sm : Int) != (wd : Int)) = true := by simp [bne, c3b]
  go_enter Tryd.func13, Tryd.ntmps13
  go_wp2_with fail
  refine hw.mono ?_
  rintro e w1 ⟨rfl, q, rfl⟩
  go_wp2_with fail
  go_region_held3 (fun w' => True) (trivial)
    (first
      | (go_at_call 19; refine (HSum.out _).mono ?_; rintro e w2 ⟨rfl, rfl⟩)
      | (go_at_call 21; refine (HWrd.out _).mono ?_; rintro e w3 ⟨rfl, q3, rfl⟩))
  go_wp2
  go_ret3
  exact FA_bad HE2.out (by decide) (below_drewN (HBm.out _) q3)

set_option maxRecDepth 100000 in
set_option maxHeartbeats 3200000 in
theorem first_any (v : Value) (l : List Nat) (w : World) (h : BR w v l) (hT : Tb w) (h0 : 0 < w.heap.size) : Calls Tryd.prog 13 #[v] w (FA w l) := by
  by_cases hl : l.length < 8
  · exact first_short v l w h hl
  · have HR : Hid (BR w v l) := h
    have HT : Hid (Tb w) := hT
    have HS : Hid (Sm8 l) := h.1
    obtain ⟨s1, a, cap, rfl, h3, h4, h5⟩ := h
    clear h5
    obtain ⟨b, o, rfl, hbl, hc⟩ := HR.out.lies (by omega)
    unfold maxLen at h4
    have hwl := w4_lt s1
    have HE : Hid (frsE l = if 1048576 < w4 l then 2 else if l.length - 8 < w4 l then 3 else if sumN (l.take 4 ++ frsD l) ≠ w4 (l.drop 4) then 4 else 0) := by show _ = _; unfold frsE; rw [if_neg hl]
    have hw := word_any _ l w HR.out (by omega)
    obtain ⟨k, hk⟩ : ∃ k, k = w4 l := ⟨_, rfl⟩
    have HK : Hid (k = w4 l) := hk
    rw [← hk] at hw HE hwl
    obtain ⟨n, hn⟩ : ∃ n, n = l.length := ⟨_, rfl⟩
    have HN : Hid (n = l.length) := hn
    rw [← hn] at h3 hl hw HE HR ⊢
    clear s1 hT hc hk hn
    have hi : ¬ (n : Int) < 8 := by omega
    by_cases c1 : 1048576 < k
    · have HE2 : Hid (frsE l = 2) := by show _ = _; rw [HE.out, if_pos c1]
      have c1i : (1048576 : Int) < (k : Int) := by omega
      go_enter Tryd.func13, Tryd.ntmps13
      go_wp2_with fail
      refine hw.mono ?_
      rintro e w1 ⟨rfl, q, rfl⟩
      go_wp2
      go_ret3
      exact FA_bad HE2.out (by decide) (below_drewN (Below.refl _ _) q)
    · have c1i : ¬ (1048576 : Int) < (k : Int) := by omega
      have hn8 : (8 : Int) ≤ (n : Int) := by omega
      have hn9 : (8 : Int) ≤ (cap : Int) := by omega
      obtain ⟨o2, ho2⟩ : ∃ o2, (cap = 8 ∧ o2 = o) ∨ (¬ cap = 8 ∧ o2 = o + 8) := by
        by_cases c : cap = 8
        · exact ⟨o, Or.inl ⟨c, rfl⟩⟩
        · exact ⟨o + 8, Or.inr ⟨c, rfl⟩⟩
      have HRest : Hid (BR w (.slice (some ⟨b, o2, none⟩) (n - 8) (cap - 8)) (l.drop 8)) := by
        have := HR.out.cut (lo := 8) (hi := n) (by omega) (by have := HN.out; omega)
        rw [HN.out, List.take_length, ← HN.out] at this
        unfold sliced at this
        rcases ho2 with ⟨e, rfl⟩ | ⟨e, rfl⟩
        · rw [if_pos e] at this; exact this
        · rw [if_neg e] at this; exact this
      have hsl : (if cap = 8 then some (⟨b, o, none⟩ : Addr) else some ⟨b, o + 8, none⟩) = some ⟨b, o2, none⟩ := by
        rcases ho2 with ⟨e, rfl⟩ | ⟨e, rfl⟩
        · rw [if_pos e]
        · rw [if_neg e]
      clear ho2
      by_cases c2 : n - 8 < k
      · have HE2 : Hid (frsE l = 3) := by show _ = _; rw [HE.out, if_neg c1, if_pos c2]
        have c2i : (n : Int) - 8 < (k : Int) := by omega
        go_enter Tryd.func13, Tryd.ntmps13
        go_wp2_with fail
        refine hw.mono ?_
        rintro e w1 ⟨rfl, q, rfl⟩
        go_wp2
        go_ret3
        exact FA_bad HE2.out (by decide) (below_drewN (Below.refl _ _) q)
      · have HD : Hid (BR w (.slice (some ⟨b, o2, none⟩) k (cap - 8)) (frsD l)) := by
          have := HRest.out.head (hi := k) (by rw [List.length_drop]; have := HN.out; omega)
          unfold frsD; rw [← HK.out]; exact this
        have HH : Hid (BR w (.slice (some ⟨b, o, none⟩) 4 cap) (l.take 4)) := HR.out.head (by have := HN.out; omega)
        have HW : Hid (BR w (.slice (some ⟨b, o + 4, none⟩) (n - 4) (cap - 4)) (l.drop 4)) := by
          have := HR.out.cut (lo := 4) (hi := n) (by omega) (by have := HN.out; omega)
          rw [HN.out, List.take_length, ← HN.out] at this
          unfold sliced at this
          rw [if_neg (by omega)] at this
          exact this
        have HLn : Hid (4 ≤ (l.drop 4).length) := by show _ ≤ _; rw [List.length_drop]; have := HN.out; omega
        have HDl : Hid ((frsD l).length = k) := by have := frsD_length (l := l) (by have := HN.out; have := HK.out; omega); rw [← HK.out] at this; exact this
        obtain ⟨sm, hsm⟩ : ∃ sm, sm = sumN (l.take 4 ++ frsD l) := ⟨_, rfl⟩
        obtain ⟨wd, hwd⟩ : ∃ wd, wd = w4 (l.drop 4) := ⟨_, rfl⟩
        rw [← hsm, ← hwd, if_neg c1, if_neg c2] at HE
        have HSM : Hid (sumN (l.take 4 ++ frsD l) = sm) := hsm.symm
        have HWD : Hid (w4 (l.drop 4) = wd) := hwd.symm
        have c2i : ¬ (n : Int) - 8 < (k : Int) := by omega
        have c2j : (k : Int) ≤ (cap : Int) - 8 := by omega
        have c2k : k ≤ cap - 8 := by omega
        have c2l : ¬ n - 8 < k := c2
        have k4 : ¬ cap = 4 := by omega
        have k5 : (4 : Int) ≤ (cap : Int) := by omega
        have k6 : (4 : Int) ≤ (n : Int) := by omega
        have k7 : (0 : Int) ≤ (k : Int) := by omega
        clear hsm hwd
        have HBm : Hid (∀ m, Below w.heap.size w ((w.drewN m).alloc (.cells #[.slice (some ⟨b, o, none⟩) 4 cap, .slice (some ⟨b, o2, none⟩) k (cap - 8)] 22))) := fun m => (below_drewN (Below.refl _ _) m).alloc (Nat.le_refl _) _
        have HSum : Hid (∀ m, Calls Tryd.prog 19 #[.slice (some ⟨w.heap.size, 0, none⟩) 2 2] ((w.drewN m).alloc (.cells #[.slice (some ⟨b, o, none⟩) 4 cap, .slice (some ⟨b, o2, none⟩) k (cap - 8)] 22)) fun e w' => e = .returned (.int .u32 (sm : Int)) ∧ w' = (w.drewN m).alloc (.cells #[.slice (some ⟨b, o, none⟩) 4 cap, .slice (some ⟨b, o2, none⟩) k (cap - 8)] 22)) := by
          intro m
          have := sumOf2 ((w.drewN m).alloc (.cells #[.slice (some ⟨b, o, none⟩) 4 cap, .slice (some ⟨b, o2, none⟩) k (cap - 8)] 22)) w.heap.size (.slice (some ⟨b, o, none⟩) 4 cap) (.slice (some ⟨b, o2, none⟩) k (cap - 8)) (l.take 4) (frsD l) (cells_at (w.drewN m) _ _ 0 _ rfl) (cells_at (w.drewN m) _ _ 1 _ rfl) (HH.out.below (HBm.out m) (Nat.le_refl _)) (HD.out.below (HBm.out m) (Nat.le_refl _)) (HT.out.below (HBm.out m) h0)
          rw [HSM.out] at this
          exact this
        have HWrd : Hid (∀ m, Calls Tryd.prog 21 #[.slice (some ⟨b, o + 4, none⟩) (n - 4) (cap - 4)] ((w.drewN m).alloc (.cells #[.slice (some ⟨b, o, none⟩) 4 cap, .slice (some ⟨b, o2, none⟩) k (cap - 8)] 22)) fun e w' => e = .returned (.int .u32 (wd : Int)) ∧ ∃ q, w' = ((w.drewN m).alloc (.cells #[.slice (some ⟨b, o, none⟩) 4 cap, .slice (some ⟨b, o2, none⟩) k (cap - 8)] 22)).drewN q) := by
          intro m
          have := word_any _ (l.drop 4) ((w.drewN m).alloc (.cells #[.slice (some ⟨b, o, none⟩) 4 cap, .slice (some ⟨b, o2, none⟩) k (cap - 8)] 22)) (HW.out.below (HBm.out m) (Nat.le_refl _)) HLn.out
          rw [HWD.out] at this
          exact this
        by_cases c3 : sm = wd
        · subst c3
          exact first_ok l w b o o2 n cap k sm h4 h3 hl hwl hw HK HS c1 c2 hsl HD HDl HBm HSum HWrd (by show _ = _; rw [HE.out, if_neg (by simp)])
        · exact first_form l w b o o2 n cap k sm wd h4 h3 hl hwl hw HK HS c1 c2 hsl HD HDl HBm HSum HWrd (by show _ = _; rw [HE.out, if_pos c3]) c3

end Go.Proofs.YtmjiaephmgngiaaDoor
