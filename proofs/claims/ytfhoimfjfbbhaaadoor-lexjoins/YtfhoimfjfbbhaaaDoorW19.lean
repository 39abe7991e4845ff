/-
  LxGood, LxJoin
-/
import Derived.Test.YtfhoimfjfbbhaaaDoorZ18

/-
  Plain mathematics of layer 10: what holds of all words of a script; the reference's Skip where a word stands.
-/
namespace Go.Proofs.YtfhoimfjfbbhaaaDoor
set_option maxRecDepth 100000
open Go.RowKit Txt Lx

/-- What holds of each word. -/
def Pk (L : List UInt8) (t : Tk) : Prop :=
  t.pos ≤ L.length ∧ (t.pos = L.length ∨ (isB (hb (L.drop t.pos)) = false ∧ dd (L.drop t.pos) = false)) ∧ (t.k ≤ 1 → t.s.length ≤ L.length - t.pos ∧ (L.drop t.pos).take t.s.length = t.s)

theorem wordW_says {m : List UInt8} {d : Wd} (h : wordW m = .inr d) (hk : d.k ≤ 1) : d.s.length ≤ m.length ∧ m.take d.s.length = d.s := by
  unfold wordW at h
  split at h
  · unfold numW at h
    split at h
    · cases h
    · split at h
      · cases h
      · injection h with h
        subst h
        simp at hk
  · split at h
    · unfold nameW at h
      injection h with h
      subst h
      have := cnt_le isN m
      simp only [List.length_take, Nat.min_eq_left this]
      exact ⟨this, trivial⟩
    · split at h
      · unfold textW at h
        split at h
        · cases h
        · split at h
          · cases h
          · split at h
            · cases h
            · injection h with h
              subst h
              simp at hk
      · unfold signW at h
        split at h
        · next s hs =>
          injection h with h
          subst h
          have h0 := List.find?_some hs
          have h1 := List.isPrefixOf_iff_prefix.1 h0
          exact ⟨h1.length_le, (List.prefix_iff_eq_take.1 h1).symm⟩
        · cases h
theorem wordW_err {m : List UInt8} {o x : Nat} (h : wordW m = .inl (o, x)) : x ≠ 0 := by
  unfold wordW at h
  split at h
  · unfold numW at h
    generalize parseW (m.take (numLen m)) = pr at h
    split at h
    · next c => injection h with h; injection h with _ h; subst h; exact c
    · split at h
      · injection h with h; injection h with _ h; subst h; decide
      · cases h
  · split at h
    · unfold nameW at h; cases h
    · split at h
      · unfold textW at h
        split at h
        · injection h with h; injection h with _ h; subst h; decide
        · split at h
          · injection h with h; injection h with _ h; subst h; decide
          · split at h
            · injection h with h; injection h with _ h; subst h; decide
            · cases h
      · unfold signW at h
        split at h
        · cases h
        · injection h with h; injection h with _ h; subst h; decide

theorem lexL_good (L : List UInt8) : ∀ (f off : Nat) (acc ts : List Tk), off ≤ L.length → lexL f off (L.drop off) acc = .inr ts → acc.Pairwise (fun a b => a.pos < b.pos) → (∀ t ∈ acc, t.pos < off ∧ Pk L t) →
    ts.Pairwise (fun a b => a.pos < b.pos) ∧ (∀ t ∈ ts, Pk L t) ∧ ∃ ts', ts = ts' ++ [⟨4, L.length, [], 0⟩] := by
  intro f
  induction f with
  | zero => intro off acc ts _ h; cases h
  | succ f ih =>
    intro off acc ts ho h hp ha
    rw [lexL_M L f off acc ho] at h
    have hsk := sk_le (L.drop off) false
    rw [List.length_drop] at hsk
    unfold lexM at h
    split at h
    · next c =>
      split at h
      · cases h
      · next d hd =>
        split at h
        · cases h
        · have hl := wordW_len hd (by rw [List.length_drop]; omega)
          rw [List.length_drop] at hl
          have he := sk_end (L.drop off) (by rw [List.length_drop]; omega)
          rw [List.drop_drop] at he
          refine ih _ _ _ (by omega) h ?_ ?_
          · rw [List.pairwise_append]
            refine ⟨hp, List.pairwise_singleton _ _, fun a h1 b h2 => ?_⟩
            have := (ha a h1).1
            rw [List.mem_singleton] at h2
            subst h2
            show a.pos < off + _
            omega
          · intro t ht
            rw [List.mem_append, List.mem_singleton] at ht
            rcases ht with ht | ht
            · exact ⟨by have := (ha t ht).1; omega, (ha t ht).2⟩
            · subst ht
              refine ⟨by show off + _ < _; omega, by show off + _ ≤ _; omega, Or.inr he, fun hk => ?_⟩
              have := wordW_says hd hk
              rw [List.length_drop] at this
              exact this
    · injection h with h
      subst h
      refine ⟨?_, ?_, acc, rfl⟩
      · rw [List.pairwise_append]
        refine ⟨hp, List.pairwise_singleton _ _, fun a h1 b h2 => ?_⟩
        have := (ha a h1).1
        rw [List.mem_singleton] at h2
        subst h2
        show a.pos < L.length
        omega
      · intro t ht
        rw [List.mem_append, List.mem_singleton] at ht
        rcases ht with ht | ht
        · exact (ha t ht).2
        · subst ht
          exact ⟨Nat.le_refl _, Or.inl rfl, fun hk => by simp at hk⟩
theorem lexL_err (L : List UInt8) : ∀ (f off : Nat) (acc : List Tk) (p x : Nat), off ≤ L.length → L.length - off < f → lexL f off (L.drop off) acc = .inl (p, x) → x ≠ 0 := by
  intro f
  induction f with
  | zero => intro off acc p x _ hf; omega
  | succ f ih =>
    intro off acc p x ho hf h
    rw [lexL_M L f off acc ho] at h
    have hsk := sk_le (L.drop off) false
    rw [List.length_drop] at hsk
    unfold lexM at h
    split at h
    · next c =>
      split at h
      · next o e hd =>
        injection h with h; injection h with _ h; subst h
        exact wordW_err hd
      · next d hd =>
        split at h
        · injection h with h; injection h with _ h; subst h; decide
        · have hl := wordW_len hd (by rw [List.length_drop]; omega)
          rw [List.length_drop] at hl
          exact ih _ _ _ _ (by omega) (by omega) h
    · cases h
theorem wordsF_good {L : List UInt8} {ts : List Tk} (h : wordsF L = .inr ts) : ts.Pairwise (fun a b => a.pos < b.pos) ∧ (∀ t ∈ ts, Pk L t) ∧ (∃ ts', ts = ts' ++ [⟨4, L.length, [], 0⟩]) ∧ L.length ≤ 65536 := by
  unfold wordsF at h
  split at h
  · cases h
  · next c =>
    obtain ⟨h1, h2, h3⟩ := lexL_good L _ 0 [] ts (Nat.zero_le _) h List.Pairwise.nil (fun t ht => by cases ht)
    exact ⟨h1, h2, h3, by omega⟩
theorem wordsF_err {L : List UInt8} {p x : Nat} (h : wordsF L = .inl (p, x)) : x ≠ 0 := by
  unfold wordsF at h
  split at h
  · injection h with h; injection h with _ h; subst h; decide
  · exact lexL_err L _ 0 [] p x (Nat.zero_le _) (by omega) h

/-! The reference's kind and Skip. -/
theorem kind_other (n : Nat) (w : World) (h1 : ¬ (n : Int) = 32) (h2 : ¬ (n : Int) = 9) (h3 : ¬ (n : Int) = 10) (h4 : ¬ (n : Int) = 13) (hn : n < 256) :
    Calls Tryd.prog 16 #[.int .u8 n] w fun e w' => (∃ k : Nat, e = .returned (.int .i64 (k : Int)) ∧ k < 3) ∧ w' = w := by
  have e1 : ((n : Int) == 32) = false := beq_eq_false_iff_ne.2 h1
  have e2 : ((n : Int) == 9) = false := beq_eq_false_iff_ne.2 h2
  have e3 : ((n : Int) == 10) = false := beq_eq_false_iff_ne.2 h3
  have e4 : ((n : Int) == 13) = false := beq_eq_false_iff_ne.2 h4
  have hc : (97 ≤ (n : Int) ∧ (n : Int) ≤ 122) ∨ (¬ 97 ≤ (n : Int) ∧ 65 ≤ (n : Int) ∧ (n : Int) ≤ 90) ∨ (¬ 97 ≤ (n : Int) ∧ 65 ≤ (n : Int) ∧ ¬ (n : Int) ≤ 90 ∧ (n : Int) = 95) ∨ (¬ 97 ≤ (n : Int) ∧ ¬ 65 ≤ (n : Int) ∧ 48 ≤ (n : Int) ∧ (n : Int) ≤ 57) ∨
      (97 ≤ (n : Int) ∧ ¬ (n : Int) ≤ 122) ∨ (¬ 97 ≤ (n : Int) ∧ 65 ≤ (n : Int) ∧ ¬ (n : Int) ≤ 90 ∧ ¬ (n : Int) = 95) ∨ (¬ 97 ≤ (n : Int) ∧ ¬ 65 ≤ (n : Int) ∧ 48 ≤ (n : Int) ∧ ¬ (n : Int) ≤ 57) ∨ (¬ 97 ≤ (n : Int) ∧ ¬ 65 ≤ (n : Int) ∧ ¬ 48 ≤ (n : Int)) := by omega
  rcases hc with ⟨a, b⟩ | ⟨a, b, c⟩ | ⟨a, b, c, d⟩ | ⟨a, b, c, d⟩ | ⟨a, b⟩ | ⟨a, b, c, d⟩ | ⟨a, b, c, d⟩ | ⟨a, b, c⟩
  · go_enter Tryd.func16, Tryd.ntmps16
    go_wp2
    go_ret
    exact ⟨⟨1, rfl, by decide⟩, rfl⟩
  · go_enter Tryd.func16, Tryd.ntmps16
    go_wp2
    go_ret
    exact ⟨⟨1, rfl, by decide⟩, rfl⟩
  · go_enter Tryd.func16, Tryd.ntmps16
    go_wp2
    go_ret
    exact ⟨⟨1, rfl, by decide⟩, rfl⟩
  · have f95 : ((n : Int) == 95) = false := beq_eq_false_iff_ne.2 (by omega)
    go_enter Tryd.func16, Tryd.ntmps16
    go_wp2
    go_ret
    exact ⟨⟨2, rfl, by decide⟩, rfl⟩
  · have f95 : ((n : Int) == 95) = false := beq_eq_false_iff_ne.2 (by omega)
    have g1 : 65 ≤ (n : Int) := by omega
    have g2 : ¬ (n : Int) ≤ 90 := by omega
    have g3 : 48 ≤ (n : Int) := by omega
    have g4 : ¬ (n : Int) ≤ 57 := by omega
    go_enter Tryd.func16, Tryd.ntmps16
    go_wp2
    go_ret
    exact ⟨⟨0, rfl, by decide⟩, rfl⟩
  · have f95 : ((n : Int) == 95) = false := beq_eq_false_iff_ne.2 d
    have g3 : 48 ≤ (n : Int) := by omega
    have g4 : ¬ (n : Int) ≤ 57 := by omega
    go_enter Tryd.func16, Tryd.ntmps16
    go_wp2
    go_ret
    exact ⟨⟨0, rfl, by decide⟩, rfl⟩
  · have f95 : ((n : Int) == 95) = false := beq_eq_false_iff_ne.2 (by omega)
    go_enter Tryd.func16, Tryd.ntmps16
    go_wp2
    go_ret
    exact ⟨⟨0, rfl, by decide⟩, rfl⟩
  · have f95 : ((n : Int) == 95) = false := beq_eq_false_iff_ne.2 (by omega)
    go_enter Tryd.func16, Tryd.ntmps16
    go_wp2
    go_ret
    exact ⟨⟨0, rfl, by decide⟩, rfl⟩

end Go.Proofs.YtfhoimfjfbbhaaaDoor

/-
  Plain mathematics of layer 10: two scripts, a line feed between.
-/
namespace Go.Proofs.YtfhoimfjfbbhaaaDoor
set_option maxRecDepth 100000
open Go.RowKit Txt Lx

theorem hb_app (m b : List UInt8) : hb (m ++ 10 :: b) = hb m := by cases m <;> rfl
theorem drop_app {m : List UInt8} {k : Nat} (h : k ≤ m.length) (b : List UInt8) : (m ++ 10 :: b).drop k = m.drop k ++ 10 :: b := List.drop_append_of_le_length h
theorem sk_app (b : List UInt8) : ∀ (m : List UInt8) (f : Bool), sk f (m ++ 10 :: b) = if sk f m = m.length then m.length + 1 + sk false b else sk f m := by
  intro m
  induction m with
  | nil =>
    intro f
    have e : sk f [] = 0 := by cases f <;> rfl
    rw [e]
    show sk f (10 :: b) = (if 0 = 0 then 0 + 1 + sk false b else 0)
    rw [if_pos rfl]
    cases f
    · rw [sk_f, if_pos (by decide)]
    · rw [sk_t, if_pos rfl]
  | cons c r ih =>
    intro f
    have h1 := ih true
    have h2 := ih false
    rw [List.cons_append, List.length_cons]
    cases f with
    | true =>
      rw [sk_t, sk_t]
      by_cases hc : c = 10
      · rw [if_pos hc, if_pos hc, h2]
        split <;> split <;> omega
      · rw [if_neg hc, if_neg hc, h1]
        split <;> split <;> omega
    | false =>
      rw [sk_f, sk_f, hb_app]
      by_cases hb1 : isB c = true
      · rw [if_pos hb1, if_pos hb1, h2]
        split <;> split <;> omega
      · rw [if_neg hb1, if_neg hb1]
        by_cases h45 : c = 45 ∧ hb r = 45
        · rw [if_pos h45, if_pos h45, h1]
          split <;> split <;> omega
        · rw [if_neg h45, if_neg h45]
          rw [if_neg (by omega)]
theorem dotl_app (m b : List UInt8) : dotl (m ++ 10 :: b) = dotl m := by
  unfold dotl
  rw [hb_app]
  cases m with
  | nil => rfl
  | cons c r =>
    rw [drop_app (by simp) b, hb_app, cnt_split isD _ _ rfl]
theorem xpo_app (m b : List UInt8) : xpo (m ++ 10 :: b) = xpo m := by
  unfold xpo
  rw [hb_app]
  cases m with
  | nil => rfl
  | cons c r => rw [drop_app (by simp) b, hb_app]
theorem xpo_le (m : List UInt8) : xpo m ≤ m.length := by
  unfold xpo
  split
  · next h =>
    have h0 : 0 < m.length := hb_pos (by rcases h with h | h <;> rw [h] <;> decide)
    split
    · next h2 =>
      have : 0 < (m.drop 1).length := hb_pos (by rcases h2 with h | h <;> rw [h] <;> decide)
      rw [List.length_drop] at this
      omega
    · omega
  · omega
theorem exql_app (m b : List UInt8) : exql (m ++ 10 :: b) = exql m := by
  unfold exql
  rw [xpo_app, drop_app (xpo_le m) b, hb_app, cnt_split isD _ _ rfl]
theorem numLen_app (m b : List UInt8) : numLen (m ++ 10 :: b) = numLen m := by
  have h1 := cnt_le isD m
  have h2 := dotl_le (m.drop (cnt isD m))
  rw [List.length_drop] at h2
  unfold numLen
  rw [cnt_split isD _ _ rfl, drop_app h1 b, dotl_app, drop_app (by omega) b, exql_app]
theorem take_app {m : List UInt8} {k : Nat} (h : k ≤ m.length) (b : List UInt8) : (m ++ 10 :: b).take k = m.take k := List.take_append_of_le_length h
theorem numW_app (m b : List UInt8) : numW (m ++ 10 :: b) = numW m := by
  unfold numW
  rw [numLen_app, take_app (numLen_le m) b, drop_app (numLen_le m) b, hb_app]
theorem nameW_app (m b : List UInt8) : nameW (m ++ 10 :: b) = nameW m := by
  unfold nameW
  rw [cnt_split isN _ _ rfl, take_app (cnt_le isN m) b]
theorem txt_app (b : List UInt8) : ∀ (m : List UInt8) (p : Nat) (o : Option Nat) (a : List UInt8), txt (m ++ 10 :: b) p o a = txt m p o a := by
  intro m
  induction h : m.length using Nat.strongRecOn generalizing m with
  | ind n ih =>
    intro p o a
    by_cases c10 : hb m = 10
    · rw [txt_lf c10, txt_lf (by rw [hb_app]; exact c10)]
    · have hpos := hb_pos c10
      have d1 := drop_app (m := m) (k := 1) (by omega) b
      by_cases c34 : hb m = 34
      · rw [txt_quote hpos c34, txt_quote (by rw [List.length_append]; omega) (by rw [hb_app]; exact c34)]
      · by_cases c92 : hb m = 92
        · cases ce : esc (hb (m.drop 1)) with
          | some e =>
            obtain ⟨k, k2⟩ := txt_esc c92 ce p o a
            obtain ⟨k3, _⟩ := txt_esc (m := m ++ 10 :: b) (e := e) (by rw [hb_app]; exact c92) (by rw [d1, hb_app]; exact ce) p o a
            rw [k, k3, drop_app (by omega) b]
            exact ih (m.drop 2).length (by rw [List.length_drop]; omega) (m.drop 2) rfl _ _ _
          | none =>
            rw [txt_bad c92 ce, txt_bad (m := m ++ 10 :: b) (by rw [hb_app]; exact c92) (by rw [d1, hb_app]; exact ce), d1]
            exact ih (m.drop 1).length (by rw [List.length_drop]; omega) (m.drop 1) rfl _ _ _
        · rw [txt_other c34 c10 c92, txt_other (m := m ++ 10 :: b) (by rw [hb_app]; exact c34) (by rw [hb_app]; exact c10) (by rw [hb_app]; exact c92), d1, hb_app]
          exact ih (m.drop 1).length (by rw [List.length_drop]; omega) (m.drop 1) rfl _ _ _
theorem textW_app {m : List UInt8} (h : 0 < m.length) (b : List UInt8) : textW (m ++ 10 :: b) = textW m := by
  unfold textW
  rw [drop_app (show 1 ≤ m.length by omega) b, txt_app]
theorem pre_app (b : List UInt8) : ∀ (s m : List UInt8), 10 ∉ s → s.isPrefixOf (m ++ 10 :: b) = s.isPrefixOf m := by
  intro s
  induction s with
  | nil => intro m _; cases m <;> rfl
  | cons c r ih =>
    intro m h
    cases m with
    | nil =>
      have hc : (c == 10) = false := by rw [beq_eq_false_iff_ne]; intro e; exact h (by rw [e]; simp)
      rw [List.nil_append]
      simp [List.isPrefixOf, hc]
    | cons d m => simp only [List.cons_append, List.isPrefixOf]; rw [ih m (fun hm => h (List.mem_cons_of_mem _ hm))]
theorem signW_app (m b : List UInt8) : signW (m ++ 10 :: b) = signW m := by
  have hs : ∀ s ∈ signsL, (10 : UInt8) ∉ s := by decide
  have : signsL.find? (fun s => s.isPrefixOf (m ++ 10 :: b)) = signsL.find? (fun s => s.isPrefixOf m) := by
    generalize signsL = l at hs
    induction l with
    | nil => rfl
    | cons s r ih =>
      rw [List.find?_cons, List.find?_cons, pre_app b s m (hs s (by simp)), ih (fun s' h => hs s' (List.mem_cons_of_mem _ h))]
  unfold signW
  rw [this]
theorem wordW_app {m : List UInt8} (h : 0 < m.length) (b : List UInt8) : wordW (m ++ 10 :: b) = wordW m := by
  unfold wordW
  rw [hb_app, numW_app, nameW_app, textW_app h, signW_app]

theorem lexL_step (f off : Nat) (m : List UInt8) (acc : List Tk) : lexL (f + 1) off m acc = (if sk false m < m.length then
      match wordW (m.drop (sk false m)) with
      | .inl (o, e) => .inl (off + sk false m + o, e)
      | .inr d =>
        if acc.length = 16384 then .inl (off + sk false m, 2)
        else lexL f (off + sk false m + d.len) (m.drop (sk false m + d.len)) (acc ++ [⟨d.k, off + sk false m, d.s, d.n⟩])
    else .inr (acc ++ [⟨4, off + m.length, [], 0⟩])) := rfl
/-- A word farther on. -/
def sh (d : Nat) (t : Tk) : Tk := ⟨t.k, t.pos + d, t.s, t.n⟩
theorem lexL_more : ∀ (f k off : Nat) (m : List UInt8) (acc T : List Tk), lexL f off m acc = .inr T → lexL (f + k) off m acc = .inr T := by
  intro f
  induction f with
  | zero => intro k off m acc T h; cases h
  | succ f ih =>
    intro k off m acc T h
    rw [show f + 1 + k = (f + k) + 1 by omega, lexL_step]
    rw [lexL_step] at h
    split at h
    · next c =>
      rw [if_pos c]
      split at h
      · cases h
      · next d hd =>
        try rw [hd]
        try simp only
        split at h
        · cases h
        · next c2 => first | exact ih _ _ _ _ _ h | (rw [if_neg c2]; exact ih _ _ _ _ _ h)
    · next c => rw [if_neg c]; exact h
theorem lexL_shift : ∀ (f off : Nat) (m : List UInt8) (acc T : List Tk), lexL f off m acc = .inr T → ∃ y, T = acc ++ y ∧ 1 ≤ y.length ∧ ∀ (d : Nat) (acc2 : List Tk), acc2.length + y.length ≤ 16385 → lexL f (off + d) m acc2 = .inr (acc2 ++ y.map (sh d)) := by
  intro f
  induction f with
  | zero => intro off m acc T h; cases h
  | succ f ih =>
    intro off m acc T h
    rw [lexL_step] at h
    split at h
    · next c =>
      split at h
      · cases h
      · next d hd =>
        split at h
        · cases h
        · obtain ⟨y, hy, hy1, hs⟩ := ih _ _ _ _ h
          refine ⟨⟨d.k, off + sk false m, d.s, d.n⟩ :: y, by rw [hy]; simp, by simp, fun e acc2 ha => ?_⟩
          rw [List.length_cons] at ha
          rw [lexL_step, if_pos c, hd]
          simp only
          rw [if_neg (by omega)]
          have := hs e (acc2 ++ [⟨d.k, off + e + sk false m, d.s, d.n⟩]) (by rw [List.length_append, List.length_singleton]; omega)
          rw [show off + sk false m + d.len + e = off + e + sk false m + d.len by omega] at this
          rw [this, List.map_cons, List.append_assoc]
          rw [show sh e ⟨d.k, off + sk false m, d.s, d.n⟩ = ⟨d.k, off + e + sk false m, d.s, d.n⟩ from by unfold sh; simp only [Tk.mk.injEq, true_and, and_true]; omega]
          rfl
    · next c =>
      injection h with h
      refine ⟨[⟨4, off + m.length, [], 0⟩], h.symm, by simp, fun e acc2 _ => ?_⟩
      rw [lexL_step, if_neg c, List.map_singleton]
      rw [show sh e ⟨4, off + m.length, [], 0⟩ = ⟨4, off + e + m.length, [], 0⟩ from by unfold sh; simp only [Tk.mk.injEq, true_and, and_true]; omega]
theorem lexL_join (b : List UInt8) (U : List Tk) (G : Nat) : ∀ (f off : Nat) (m : List UInt8) (acc T : List Tk), lexL f off m acc = .inr T → (∀ ts, T = ts ++ [⟨4, off + m.length, [], 0⟩] → lexL G (off + m.length + 1) b ts = .inr U) → lexL (f + G) off (m ++ 10 :: b) acc = .inr U := by
  intro f
  induction f with
  | zero => intro off m acc T h; cases h
  | succ f ih =>
    intro off m acc T h hU
    have hsk := sk_le m false
    rw [lexL_step] at h
    split at h
    · next c =>
      split at h
      · cases h
      · next d hd =>
        split at h
        · cases h
        · next c2 =>
          have hl := wordW_len hd (by rw [List.length_drop]; omega)
          rw [List.length_drop] at hl
          have e0 : sk false (m ++ 10 :: b) = sk false m := by rw [sk_app, if_neg (by omega)]
          rw [show f + 1 + G = (f + G) + 1 by omega, lexL_step, e0, if_pos (by rw [List.length_append]; omega), drop_app (by omega) b, wordW_app (by rw [List.length_drop]; omega), hd]
          simp only
          rw [if_neg c2, drop_app (by omega) b]
          refine ih _ _ _ _ h (fun ts hts => ?_)
          rw [List.length_drop] at hts ⊢
          rw [show off + sk false m + d.len + (m.length - (sk false m + d.len)) = off + m.length by omega] at hts ⊢
          exact hU ts hts
    · next c =>
      injection h with h
      have e := hU acc h.symm
      have e2 := lexL_more G (f + 1) _ _ _ _ e
      rw [show G + (f + 1) = (f + G) + 1 by omega, lexL_step] at e2
      have e0 : sk false (m ++ 10 :: b) = m.length + 1 + sk false b := by rw [sk_app, if_pos (by omega)]
      rw [show f + 1 + G = (f + G) + 1 by omega, lexL_step, e0]
      have hlen : (m ++ 10 :: b).length = m.length + 1 + b.length := by rw [List.length_append, List.length_cons]; omega
      have hdr : ∀ k, (m ++ 10 :: b).drop (m.length + 1 + k) = b.drop k := by
        intro k
        rw [List.drop_append, List.drop_eq_nil_of_le (by omega), List.nil_append, show m.length + 1 + k - m.length = k + 1 by omega, List.drop_succ_cons]
      rw [hlen]
      by_cases cb : sk false b < b.length
      · rw [if_pos cb] at e2
        rw [if_pos (by omega), hdr]
        cases hw : wordW (b.drop (sk false b)) with
        | inl oe => rw [hw] at e2; cases e2
        | inr d =>
          rw [hw] at e2
          simp only at e2 ⊢
          rw [show m.length + 1 + sk false b + d.len = m.length + 1 + (sk false b + d.len) by omega, hdr]
          simp only [show off + m.length + 1 + sk false b = off + (m.length + 1 + sk false b) by omega] at e2
          exact e2
      · rw [if_neg cb] at e2
        rw [if_neg (by omega), ← e2]
        simp only [show off + m.length + 1 + b.length = off + (m.length + 1 + b.length) by omega]
theorem wordsF_join {a b : List UInt8} {x y : List Tk} (hx : wordsF a = .inr x) (hy : wordsF b = .inr y) (h1 : a.length + b.length + 1 ≤ 65536) (h2 : x.length + y.length ≤ 16384) :
    ∃ xs, x = xs ++ [⟨4, a.length, [], 0⟩] ∧ wordsF (a ++ 10 :: b) = .inr (xs ++ y.map (sh (a.length + 1))) := by
  obtain ⟨_, _, ⟨xs, hxs⟩, hal⟩ := wordsF_good hx
  obtain ⟨_, _, _, hbl⟩ := wordsF_good hy
  refine ⟨xs, hxs, ?_⟩
  unfold wordsF at hx hy ⊢
  rw [if_neg (by omega)] at hx hy
  have hlen : (a ++ 10 :: b).length = a.length + 1 + b.length := by rw [List.length_append, List.length_cons]; omega
  rw [if_neg (by omega), hlen, show a.length + 1 + b.length + 1 = (a.length + 1) + (b.length + 1) by omega]
  refine lexL_join b _ _ _ _ _ _ _ hx (fun ts hts => ?_)
  rw [Nat.zero_add] at hts ⊢
  obtain rfl : xs = ts := by
    rw [hxs] at hts
    exact List.append_cancel_right hts
  obtain ⟨y', hy', _, hs⟩ := lexL_shift _ _ _ _ _ hy
  rw [List.nil_append] at hy'
  subst hy'
  have hxl : x.length = xs.length + 1 := by rw [hxs]; simp
  have := hs (a.length + 1) xs (by omega)
  rw [Nat.zero_add] at this
  exact this

end Go.Proofs.YtfhoimfjfbbhaaaDoor
