/-
  Layer 13: more parts of the landed Check, walked: constants, ends, ranges.
-/
import Derived.Test.YtcblknghkgihcaaDoorPgChk1
namespace Go.Proofs.YtcblknghkgihcaaDoor
set_option maxRecDepth 100000
open Go.RowKit Txt Pg Flo

theorem far_le : far ≤ 281474976710656 := Nat.le_refl _

set_option maxHeartbeats 2000000 in
theorem indexFunc_any (l : List Vl) (v : Value) (w : World) (h : SV w v l) :
    Calls Tryd.prog 73 #[v, .func (.func 62) #[] #[]] w fun e w' => ∃ k : Int, e = .returned (.int .i64 k) ∧ decide (k ≥ 0) = l.any noC ∧ Below w.heap.size w w' := by
  obtain ⟨a, cap, rfl, h1, h2, h3⟩ := h.1.val
  have HS : Hid (SV w (.slice a l.length cap) l) := h
  unfold far at h3
  obtain ⟨n, hn⟩ : ∃ n, n = l.length := ⟨_, rfl⟩
  have HN : Hid (n = l.length) := hn
  rw [← hn] at h1 h3 ⊢
  clear hn h
  go_enter Tryd.func73, Tryd.ntmps73
  go_wp2_with fail
  go_loopw [5, 8] (fun t5 t8 wr => ∃ i : Nat, i ≤ n ∧ t8 = .int .i64 i ∧ Hid ((l.take i).any noC = false) ∧ Hid (Below w.heap.size w wr)) (fun _ t8 _ => n - (intOf t8).toNat)
  case atStart => exact ⟨0, Nat.zero_le _, rfl, rfl, Below.refl _ _⟩
  case round =>
    obtain ⟨i, hi, rfl, HA, HB⟩ := hrel
    by_cases c : i < n
    · have i1 : i < l.length := by rw [← HN.out]; exact c
      have hsv := HS.out.kept HB.out (Nat.le_refl _)
      rw [← HN.out] at hsv
      obtain ⟨-, g, o, rfl, K, N, S, O, hl, ⟨b1, b2, b3, b4⟩, c0, c1, c2, c3⟩ := hsv.get i1
      have HC : Hid (∀ w, Calls Tryd.prog 62 #[.agg #[.int .i64 K, .int .u64 N, .string S, .int .i64 O]] w fun e w' => e = .returned (.bool (noC ⟨K, N, S, O⟩)) ∧ Below w.heap.size w w') := fun w => isNoC_any K N S O w ⟨b2.1, b2.2⟩
      have HT : Hid ((l.take (i + 1)).any noC = noC ⟨K, N, S, O⟩) := by
        show _ = _
        rw [List.take_succ_eq_append_getElem i1, List.any_append, HA.out, hl]
        simp
      have HT2 : Hid (noC ⟨K, N, S, O⟩ = true → l.any noC = true) := fun e => List.any_eq_true.2 ⟨l[i], List.getElem_mem i1, by rw [hl]; exact e⟩
      generalize noC ⟨K, N, S, O⟩ = z at *
      clear hsv hl b1 b2 b3 b4
      go_wp2_with fail
      refine (HC.out _).mono ?_
      rintro e w2 ⟨rfl, hb⟩
      have HB2 : Hid (Below w.heap.size w w2) := HB.out.trans (hb.mono HB.out.size)
      clear hb c0 c1 c2 c3
      cases z with
      | true =>
        go_wp2
        go_ret
        exact ⟨i, rfl, by rw [HT2.out (by simp)]; simp, HB2.out⟩
      | false =>
        go_wp2
        go_roundw
        case rel => exact ⟨i + 1, by omega, by go_num, HT, HB2⟩
        case measure => simp [intOf]; omega
    · have e : i = n := by omega
      have HT : Hid (l.any noC = false) := by
        have := HA.out
        rw [List.take_of_length_le (by rw [← HN.out]; omega)] at this
        exact this
      subst e
      go_wp2
      go_ret
      exact ⟨-1, rfl, by rw [HT.out]; decide, HB.out⟩

set_option maxHeartbeats 1000000 in
theorem containsFunc_any (l : List Vl) (v : Value) (w : World) (h : SV w v l) :
    Calls Tryd.prog 61 #[v, .func (.func 62) #[] #[]] w fun e w' => e = .returned (.bool (l.any noC)) ∧ Below w.heap.size w w' := by
  have H := indexFunc_any l v w h
  generalize l.any noC = z at *
  clear h
  go_enter Tryd.func61, Tryd.ntmps61
  go_wp2_with fail
  refine H.mono ?_
  rintro e w2 ⟨k, rfl, hk, hb⟩
  go_wp2
  go_ret
  exact ⟨by rw [← hk]; rfl, hb⟩

/-- Whether the last order ends. -/
def endB (l : List Ins) : Bool := match l.getLast? with
  | none => false
  | some x => (x.op == 29) || (x.op == 33) || (x.op == 34)
set_option maxHeartbeats 2000000 in
theorem endsWell_any (l : List Ins) (v : Value) (w : World) (h : SI w v l) :
    Calls Tryd.prog 63 #[v] w fun e w' => e = .returned (.bool (endB l)) ∧ Below w.heap.size w w' := by
  obtain ⟨a, cap, rfl, h1, h2, h3⟩ := h.1.val
  unfold far at h3
  cases l with
  | nil =>
    have hR : endB [] = false := rfl
    rw [hR]
    clear h
    simp only [List.length_nil] at h1 ⊢
    go_enter Tryd.func63, Tryd.ntmps63
    go_wp2
    go_ret
    exact ⟨rfl, Below.refl _ _⟩
  | cons x0 l0 =>
    obtain ⟨i, hi⟩ : ∃ i, i + 1 = (x0 :: l0).length := ⟨l0.length, rfl⟩
    have i1 : i < (x0 :: l0).length := by omega
    obtain ⟨-, g, o, rfl, op, x1, x2, x3, hl, hok, c0, c1, c2, c3⟩ := h.get i1
    have hR : endB (x0 :: l0) = ((op == 29) || (op == 33) || (op == 34)) := by
      unfold endB
      rw [List.getLast?_eq_getElem?, ← hi, Nat.add_sub_cancel, List.getElem?_eq_getElem i1, hl]
    rw [hR]
    rw [← hi] at h1 h3 ⊢
    clear h hR hl hi i1 c1 c2 c3 hok
    generalize x0 :: l0 = ll at *
    have e0 : ¬ ((i + 1 : Nat) : Int) = 0 := by omega
    have e1 : ((i + 1 : Nat) : Int) - 1 = (i : Int) := by omega
    by_cases d1 : op = 29
    · subst d1
      go_enter Tryd.func63, Tryd.ntmps63
      go_wp2
      go_ret
      exact ⟨rfl, Below.refl _ _⟩
    · by_cases d2 : op = 33
      · subst d2
        go_enter Tryd.func63, Tryd.ntmps63
        go_wp2
        go_ret
        exact ⟨rfl, Below.refl _ _⟩
      · by_cases d3 : op = 34
        · subst d3
          go_enter Tryd.func63, Tryd.ntmps63
          go_wp2
          go_ret
          exact ⟨rfl, Below.refl _ _⟩
        · have hR : ((op == 29) || (op == 33) || (op == 34)) = false := by simp [d1, d2, d3]
          rw [hR]
          clear hR
          go_enter Tryd.func63, Tryd.ntmps63
          go_wp2
          go_ret
          exact ⟨rfl, Below.refl _ _⟩

/-- How many an operand is one of. -/
def rngZ (rg : Int) (nu nc nk np : Nat) (a o : Int) : Int :=
  if o = 1 then rg else if o = 2 then rg - 2 else if o = 3 then nk else if o = 4 then nu else if o = 5 then nc else if o = 6 then min (rg - a) 31 else if o = 7 then np else 0
set_option maxHeartbeats 2000000 in
theorem rangeOf_any (pa rg : Int) (au ac ak ap : Option Addr) (nu cu nc cc nk ck np cp : Nat) (a o : Int) (w : World) (h0 : 0 ≤ rg) (hg : i64 rg) (ho : 0 ≤ o ∧ o ≤ 7) (ha : o = 6 → 0 ≤ a ∧ a ≤ rg) :
    Calls Tryd.prog 75 #[.int .i64 o, .int .i64 a, .agg #[.int .i64 pa, .int .i64 rg, .slice au nu cu, .slice ac nc cc, .slice ak nk ck, .slice ap np cp]] w fun e w' => e = .returned (.int .i64 (rngZ rg nu nc nk np a o)) ∧ Below w.heap.size w w' := by
  have hB : Hid (∀ o, Below w.heap.size w (w.alloc o)) := fun o => (Below.refl _ _).alloc (Nat.le_refl _) _
  unfold i64 at hg
  have hc : o = 0 ∨ o = 1 ∨ o = 2 ∨ o = 3 ∨ o = 4 ∨ o = 5 ∨ o = 6 ∨ o = 7 := by omega
  rcases hc with rfl | rfl | rfl | rfl | rfl | rfl | rfl | rfl
  case inr.inr.inr.inr.inr.inr.inl =>
    have ha2 := ha rfl
    have hR : rngZ rg nu nc nk np a 6 = min (rg - a) 31 := rfl
    rw [hR]
    clear ha ho hR
    go_enter Tryd.func75, Tryd.ntmps75
    go_wp2
    all_goals
      go_ret
      refine ⟨?_, hB.out _⟩
      first | (rw [show min (rg - a) 31 = 31 by omega]; rfl) | (rw [show min (rg - a) 31 = rg - a by omega]; rfl)
  all_goals
    clear ha ho
    go_enter Tryd.func75, Tryd.ntmps75
    go_wp2
    go_ret
    exact ⟨rfl, hB.out _⟩

end Go.Proofs.YtcblknghkgihcaaDoor
