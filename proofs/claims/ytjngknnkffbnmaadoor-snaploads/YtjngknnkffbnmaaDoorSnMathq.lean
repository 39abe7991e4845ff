/-
  Layer 19: what is read of bytes has not more parts than a fifth of them, plain.
-/
import Derived.Test.YtjngknnkffbnmaaDoorSnRef7q
import Derived.Test.YtjngknnkffbnmaaDoorGR
namespace Go.Proofs.YtjngknnkffbnmaaDoor
set_option maxRecDepth 100000
open Go.RowKit Crc Sn

namespace Sn
theorem decL_bd (f : List Nat → Nat ⊕ (Tr × List Nat)) (hf : ∀ l t r, f l = .inr (t, r) → l.length ≤ 1048576 → 5 * t.cnt + r.length ≤ l.length ∧ ST t) : ∀ (n : Nat) (l : List Nat) (ts : List Tr) (r : List Nat), decL f n l = .inr (ts, r) → l.length ≤ 1048576 → 5 * cnts ts + r.length ≤ l.length ∧ ∀ t ∈ ts, ST t
  | 0, l, ts, r, h, _ => by
    injection h with h
    injection h with h1 h2
    subst h1 h2
    exact ⟨by rw [cnts_nil]; omega, fun t ht => by cases ht⟩
  | n + 1, l, ts, r, h, hl => by
    rw [decL_succ] at h
    cases e : f l with
    | inl y => rw [e] at h; cases h
    | inr p =>
      obtain ⟨t, l2⟩ := p
      rw [e] at h
      simp only at h
      obtain ⟨h1, h2⟩ := hf l t l2 e hl
      cases e2 : decL f n l2 with
      | inl y => rw [e2] at h; cases h
      | inr q =>
        obtain ⟨ts', r'⟩ := q
        rw [e2] at h
        injection h with h
        injection h with h3 h4
        subst h3 h4
        obtain ⟨h5, h6⟩ := decL_bd f hf n l2 ts' r' e2 (by omega)
        refine ⟨by rw [cnts_cons]; omega, fun x hx => ?_⟩
        rcases List.mem_cons.1 hx with rfl | hx
        · exact h2
        · exact h6 x hx
theorem dec_bd : ∀ (D : Nat) (l : List Nat) (t : Tr) (r : List Nat), decT D l = .inr (t, r) → l.length ≤ 1048576 → 5 * t.cnt + r.length ≤ l.length ∧ ST t := by
  intro D
  induction D with
  | zero =>
    intro l t r h hl
    match l, h with
    | k :: l, h =>
      unfold decT at h
      simp only [List.length_cons] at hl ⊢
      split at h
      · split at h
        · cases h
        · injection h with h; injection h with h1 h2; subst h1 h2
          rw [Tr.cnt_mk, cnts_nil, ST_mk, List.length_drop]
          exact ⟨by omega, by decide, fun t h => by cases h⟩
      · split at h
        · split at h
          · cases h
          · split at h
            · cases h
            · injection h with h; injection h with h1 h2; subst h1 h2
              rw [Tr.cnt_mk, cnts_nil, ST_mk, bsN_size, List.length_drop, List.length_drop, List.length_take, List.length_drop]
              exact ⟨by omega, by omega, fun t h => by cases h⟩
        · split at h
          · cases h
          · cases h
  | succ D ih =>
    intro l t r h hl
    cases l with
    | nil => simp [decT] at h
    | cons k l =>
      by_cases k2 : k = 2
      · unfold decT at h
        rw [if_neg (by omega), if_neg (by omega), if_pos k2] at h
        simp only at h
        simp only [List.length_cons] at hl ⊢
        by_cases c : l.length < 4
        · rw [if_pos c] at h; cases h
        · rw [if_neg c] at h
          by_cases c2 : l.length - 4 < nb (l.take 4)
          · rw [if_pos c2] at h; cases h
          · rw [if_neg c2] at h
            cases e : decL (decT D) (nb (l.take 4)) (l.drop 4) with
            | inl y => rw [e] at h; cases h
            | inr q =>
              obtain ⟨ts, l2⟩ := q
              rw [e] at h
              injection h with h; injection h with h1 h2; subst h1 h2
              obtain ⟨h5, h6⟩ := decL_bd (decT D) ih _ _ _ _ e (by rw [List.length_drop]; omega)
              rw [List.length_drop] at h5
              rw [Tr.cnt_mk, ST_mk]
              exact ⟨by omega, by decide, h6⟩
      · unfold decT at h
        simp only [List.length_cons] at hl ⊢
        split at h
        · split at h
          · cases h
          · injection h with h; injection h with h1 h2; subst h1 h2
            rw [Tr.cnt_mk, cnts_nil, ST_mk, List.length_drop]
            exact ⟨by omega, by decide, fun t h => by cases h⟩
        · split at h
          · split at h
            · cases h
            · split at h
              · cases h
              · injection h with h; injection h with h1 h2; subst h1 h2
                rw [Tr.cnt_mk, cnts_nil, ST_mk, bsN_size, List.length_drop, List.length_drop, List.length_take, List.length_drop]
                exact ⟨by omega, by omega, fun t h => by cases h⟩
          · cases h
theorem decD_bd {l : List Nat} {t : Tr} (h : decD l = .inr t) : t.cnt ≤ 209715 ∧ ST t := by
  unfold decD at h
  split at h
  · cases h
  · next hl =>
    cases e : decT 64 l with
    | inl y => rw [e] at h; cases h
    | inr p =>
      rw [e] at h
      simp only at h
      split at h
      · injection h with h
        subst h
        obtain ⟨t, r⟩ := p
        have := dec_bd 64 l t r e (by omega)
        exact ⟨by show t.cnt ≤ _; omega, this.2⟩
      · cases h
theorem decD_err {l : List Nat} {y : Nat} (h : decD l = .inl y) : y = 2 ∨ y = 3 ∨ y = 4 := by
  unfold decD at h
  split at h
  · injection h with h; omega
  · cases e : decT 64 l with
    | inl z =>
      rw [e] at h
      injection h with h
      have := dec_err 64 l z e
      omega
    | inr p =>
      rw [e] at h
      simp only at h
      split at h
      · cases h
      · injection h with h; omega
end Sn

end Go.Proofs.YtjngknnkffbnmaaDoor
