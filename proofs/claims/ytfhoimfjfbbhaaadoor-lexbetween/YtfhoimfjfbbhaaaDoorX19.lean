/-
  LxGood
-/
import Derived.Test.YtfhoimfjfbbhaaaDoorZ18

/-
  Plain mathematics of layer 10: what holds of all words of a script; the reference's Skip where a word stands.
-/
namespace Go.Proofs.YtfhoimfjfbbhaaaDoor
set_option maxRecDepth 100000
open Go.RowKit Txt Lx

/-- What holds of each word. -/
def Pk (L : List UInt8) (t : Tk) : Prop :=
  t.pos ≤ L.length ∧ (t.pos = L.length ∨ (isB (hb (L.drop t.pos)) = false ∧ dd (L.drop t.pos) = false)) ∧ (t.k ≤ 1 → t.s.length ≤ L.length - t.pos ∧ (L.drop t.pos).take t.s.length = t.s)

theorem wordW_says {m : List UInt8} {d : Wd} (h : wordW m = .inr d) (hk : d.k ≤ 1) : d.s.length ≤ m.length ∧ m.take d.s.length = d.s := by
  unfold wordW at h
  split at h
  · unfold numW at h
    split at h
    · cases h
    · split at h
      · cases h
      · injection h with h
        subst h
        simp at hk
  · split at h
    · unfold nameW at h
      injection h with h
      subst h
      have := cnt_le isN m
      simp only [List.length_take, Nat.min_eq_left this]
      exact ⟨this, trivial⟩
    · split at h
      · unfold textW at h
        split at h
        · cases h
        · split at h
          · cases h
          · split at h
            · cases h
            · injection h with h
              subst h
              simp at hk
      · unfold signW at h
        split at h
        · next s hs =>
          injection h with h
          subst h
          have h0 := List.find?_some hs
          have h1 := List.isPrefixOf_iff_prefix.1 h0
          exact ⟨h1.length_le, (List.prefix_iff_eq_take.1 h1).symm⟩
        · cases h
theorem wordW_err {m : List UInt8} {o x : Nat} (h : wordW m = .inl (o, x)) : x ≠ 0 := by
  unfold wordW at h
  split at h
  · unfold numW at h
    generalize parseW (m.take (numLen m)) = pr at h
    split at h
    · next c => injection h with h; injection h with _ h; subst h; exact c
    · split at h
      · injection h with h; injection h with _ h; subst h; decide
      · cases h
  · split at h
    · unfold nameW at h; cases h
    · split at h
      · unfold textW at h
        split at h
        · injection h with h; injection h with _ h; subst h; decide
        · split at h
          · injection h with h; injection h with _ h; subst h; decide
          · split at h
            · injection h with h; injection h with _ h; subst h; decide
            · cases h
      · unfold signW at h
        split at h
        · cases h
        · injection h with h; injection h with _ h; subst h; decide

theorem lexL_good (L : List UInt8) : ∀ (f off : Nat) (acc ts : List Tk), off ≤ L.length → lexL f off (L.drop off) acc = .inr ts → acc.Pairwise (fun a b => a.pos < b.pos) → (∀ t ∈ acc, t.pos < off ∧ Pk L t) →
    ts.Pairwise (fun a b => a.pos < b.pos) ∧ (∀ t ∈ ts, Pk L t) ∧ ∃ ts', ts = ts' ++ [⟨4, L.length, [], 0⟩] := by
  intro f
  induction f with
  | zero => intro off acc ts _ h; cases h
  | succ f ih =>
    intro off acc ts ho h hp ha
    rw [lexL_M L f off acc ho] at h
    have hsk := sk_le (L.drop off) false
    rw [List.length_drop] at hsk
    unfold lexM at h
    split at h
    · next c =>
      split at h
      · cases h
      · next d hd =>
        split at h
        · cases h
        · have hl := wordW_len hd (by rw [List.length_drop]; omega)
          rw [List.length_drop] at hl
          have he := sk_end (L.drop off) (by rw [List.length_drop]; omega)
          rw [List.drop_drop] at he
          refine ih _ _ _ (by omega) h ?_ ?_
          · rw [List.pairwise_append]
            refine ⟨hp, List.pairwise_singleton _ _, fun a h1 b h2 => ?_⟩
            have := (ha a h1).1
            rw [List.mem_singleton] at h2
            subst h2
            show a.pos < off + _
            omega
          · intro t ht
            rw [List.mem_append, List.mem_singleton] at ht
            rcases ht with ht | ht
            · exact ⟨by have := (ha t ht).1; omega, (ha t ht).2⟩
            · subst ht
              refine ⟨by show off + _ < _; omega, by show off + _ ≤ _; omega, Or.inr he, fun hk => ?_⟩
              have := wordW_says hd hk
              rw [List.length_drop] at this
              exact this
    · injection h with h
      subst h
      refine ⟨?_, ?_, acc, rfl⟩
      · rw [List.pairwise_append]
        refine ⟨hp, List.pairwise_singleton _ _, fun a h1 b h2 => ?_⟩
        have := (ha a h1).1
        rw [List.mem_singleton] at h2
        subst h2
        show a.pos < L.length
        omega
      · intro t ht
        rw [List.mem_append, List.mem_singleton] at ht
        rcases ht with ht | ht
        · exact (ha t ht).2
        · subst ht
          exact ⟨Nat.le_refl _, Or.inl rfl, fun hk => by simp at hk⟩
theorem lexL_err (L : List UInt8) : ∀ (f off : Nat) (acc : List Tk) (p x : Nat), off ≤ L.length → L.length - off < f → lexL f off (L.drop off) acc = .inl (p, x) → x ≠ 0 := by
  intro f
  induction f with
  | zero => intro off acc p x _ hf; omega
  | succ f ih =>
    intro off acc p x ho hf h
    rw [lexL_M L f off acc ho] at h
    have hsk := sk_le (L.drop off) false
    rw [List.length_drop] at hsk
    unfold lexM at h
    split at h
    · next c =>
      split at h
      · next o e hd =>
        injection h with h; injection h with _ h; subst h
        exact wordW_err hd
      · next d hd =>
        split at h
        · injection h with h; injection h with _ h; subst h; decide
        · have hl := wordW_len hd (by rw [List.length_drop]; omega)
          rw [List.length_drop] at hl
          exact ih _ _ _ _ (by omega) (by omega) h
    · cases h
theorem wordsF_good {L : List UInt8} {ts : List Tk} (h : wordsF L = .inr ts) : ts.Pairwise (fun a b => a.pos < b.pos) ∧ (∀ t ∈ ts, Pk L t) ∧ (∃ ts', ts = ts' ++ [⟨4, L.length, [], 0⟩]) ∧ L.length ≤ 65536 := by
  unfold wordsF at h
  split at h
  · cases h
  · next c =>
    obtain ⟨h1, h2, h3⟩ := lexL_good L _ 0 [] ts (Nat.zero_le _) h List.Pairwise.nil (fun t ht => by cases ht)
    exact ⟨h1, h2, h3, by omega⟩
theorem wordsF_err {L : List UInt8} {p x : Nat} (h : wordsF L = .inl (p, x)) : x ≠ 0 := by
  unfold wordsF at h
  split at h
  · injection h with h; injection h with _ h; subst h; decide
  · exact lexL_err L _ 0 [] p x (Nat.zero_le _) (by omega) h

/-! The reference's kind and Skip. -/
theorem kind_other (n : Nat) (w : World) (h1 : ¬ (n : Int) = 32) (h2 : ¬ (n : Int) = 9) (h3 : ¬ (n : Int) = 10) (h4 : ¬ (n : Int) = 13) (hn : n < 256) :
    Calls Tryd.prog 16 #[.int .u8 n] w fun e w' => (∃ k : Nat, e = .returned (.int .i64 (k : Int)) ∧ k < 3) ∧ w' = w := by
  have e1 : ((n : Int) == 32) = false := beq_eq_false_iff_ne.2 h1
  have e2 : ((n : Int) == 9) = false := beq_eq_false_iff_ne.2 h2
  have e3 : ((n : Int) == 10) = false := beq_eq_false_iff_ne.2 h3
  have e4 : ((n : Int) == 13) = false := beq_eq_false_iff_ne.2 h4
  have hc : (97 ≤ (n : Int) ∧ (n : Int) ≤ 122) ∨ (¬ 97 ≤ (n : Int) ∧ 65 ≤ (n : Int) ∧ (n : Int) ≤ 90) ∨ (¬ 97 ≤ (n : Int) ∧ 65 ≤ (n : Int) ∧ ¬ (n : Int) ≤ 90 ∧ (n : Int) = 95) ∨ (¬ 97 ≤ (n : Int) ∧ ¬ 65 ≤ (n : Int) ∧ 48 ≤ (n : Int) ∧ (n : Int) ≤ 57) ∨
      (97 ≤ (n : Int) ∧ ¬ (n : Int) ≤ 122) ∨ (¬ 97 ≤ (n : Int) ∧ 65 ≤ (n : Int) ∧ ¬ (n : Int) ≤ 90 ∧ ¬ (n : Int) = 95) ∨ (¬ 97 ≤ (n : Int) ∧ ¬ 65 ≤ (n : Int) ∧ 48 ≤ (n : Int) ∧ ¬ (n : Int) ≤ 57) ∨ (¬ 97 ≤ (n : Int) ∧ ¬ 65 ≤ (n : Int) ∧ ¬ 48 ≤ (n : Int)) := by omega
  rcases hc with ⟨a, b⟩ | ⟨a, b, c⟩ | ⟨a, b, c, d⟩ | ⟨a, b, c, d⟩ | ⟨a, b⟩ | ⟨a, b, c, d⟩ | ⟨a, b, c, d⟩ | ⟨a, b, c⟩
  · go_enter Tryd.func16, Tryd.ntmps16
    go_wp2
    go_ret
    exact ⟨⟨1, rfl, by decide⟩, rfl⟩
  · go_enter Tryd.func16, Tryd.ntmps16
    go_wp2
    go_ret
    exact ⟨⟨1, rfl, by decide⟩, rfl⟩
  · go_enter Tryd.func16, Tryd.ntmps16
    go_wp2
    go_ret
    exact ⟨⟨1, rfl, by decide⟩, rfl⟩
  · have f95 : ((n : Int) == 95) = false := beq_eq_false_iff_ne.2 (by omega)
    go_enter Tryd.func16, Tryd.ntmps16
    go_wp2
    go_ret
    exact ⟨⟨2, rfl, by decide⟩, rfl⟩
  · have f95 : ((n : Int) == 95) = false := beq_eq_false_iff_ne.2 (by omega)
    have g1 : 65 ≤ (n : Int) := by omega
    have g2 : ¬ (n : Int) ≤ 90 := by omega
    have g3 : 48 ≤ (n : Int) := by omega
    have g4 : ¬ (n : Int) ≤ 57 := by omega
    go_enter Tryd.func16, Tryd.ntmps16
    go_wp2
    go_ret
    exact ⟨⟨0, rfl, by decide⟩, rfl⟩
  · have f95 : ((n : Int) == 95) = false := beq_eq_false_iff_ne.2 d
    have g3 : 48 ≤ (n : Int) := by omega
    have g4 : ¬ (n : Int) ≤ 57 := by omega
    go_enter Tryd.func16, Tryd.ntmps16
    go_wp2
    go_ret
    exact ⟨⟨0, rfl, by decide⟩, rfl⟩
  · have f95 : ((n : Int) == 95) = false := beq_eq_false_iff_ne.2 (by omega)
    go_enter Tryd.func16, Tryd.ntmps16
    go_wp2
    go_ret
    exact ⟨⟨0, rfl, by decide⟩, rfl⟩
  · have f95 : ((n : Int) == 95) = false := beq_eq_false_iff_ne.2 (by omega)
    go_enter Tryd.func16, Tryd.ntmps16
    go_wp2
    go_ret
    exact ⟨⟨0, rfl, by decide⟩, rfl⟩

end Go.Proofs.YtfhoimfjfbbhaaaDoor
