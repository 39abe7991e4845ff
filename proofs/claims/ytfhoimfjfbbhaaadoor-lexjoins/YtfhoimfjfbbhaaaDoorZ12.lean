/-
  DecParse, LxMath, LxMem, LxSmall, LxPass, LxOver
-/
import Derived.Deep.QuietTactic
import Derived.BigQuiet
import Derived.Deep.RegionWith
import Derived.Deep.LoopGhost
import Derived.Deep.AppendLies
import Derived.Test.YtfhoimfjfbbhaaaDoorZ11

/-
  The landed Parse, walked: what is said of any text.
-/
namespace Go.Proofs.YtfhoimfjfbbhaaaDoor
set_option maxRecDepth 100000
open Go.RowKit Pt Flo Txt

theorem numL_all {l D : List UInt8} {E : Int} (h : numL l = some (D, E)) : AllD D ∧ D.length ≤ l.length := by
  have hlen := congrArg List.length (dig_rst l)
  rw [List.length_append] at hlen
  unfold numL at h
  split at h
  · simp at h
  · split at h
    · simp at h
      obtain ⟨rfl, rfl⟩ := h
      exact ⟨allD_take l, by omega⟩
    · next c r hr =>
      rw [hr, List.length_cons] at hlen
      have hlen2 := congrArg List.length (dig_rst r)
      rw [List.length_append] at hlen2
      split at h
      · split at h
        · simp at h
        · obtain ⟨x, hx, h2⟩ := Option.map_eq_some_iff.1 h
          simp at h2
          obtain ⟨rfl, rfl⟩ := h2
          refine ⟨?_, by rw [List.length_append]; omega⟩
          intro c hc
          rcases List.mem_append.1 hc with q | q
          · exact allD_take l c q
          · exact allD_take r c q
      · obtain ⟨x, hx, h2⟩ := Option.map_eq_some_iff.1 h
        simp at h2
        obtain ⟨rfl, rfl⟩ := h2
        exact ⟨allD_take l, by omega⟩
theorem dv_bound {D : List UInt8} (hD : AllD D) (hl : D.length ≤ 400) : dv D 0 < 10 ^ DG := by
  have := dv_lt D 0 hD
  rw [Nat.zero_add, Nat.one_mul] at this
  exact Nat.lt_of_lt_of_le this (Nat.pow_le_pow_right (by decide) (by rw [DG_eq]; exact hl))
theorem nearest_any (D : List UInt8) (x : Int) (w : World) (hD : AllD D) (hl : D.length ≤ 400) (hx1 : -41000 ≤ x) (hx2 : x ≤ 41000) :
    Calls Tryd.prog 33 #[.agg #[.string (bs D), .int .i64 x]] w fun e w' => e = .returned (.int .u64 (decN (dv D 0) x : Nat)) ∧ Below w.heap.size w w' := by
  have hsz := bs_size D
  refine nearest_gen (bs D) (fun k => dv (D.take k) 0) (dv D 0) x w hx1 hx2 (by omega) ?_ ?_ ?_ ?_
  · intro k h
    have h2 : k < D.length := by omega
    rw [bs_get _ _ h]
    have := isD_get hD h2
    exact ⟨by omega, dv_take h2⟩
  · show dv (D.take _) 0 = _; rw [hsz, List.take_length]
  · rfl
  · intro k hk
    exact dv_bound (fun c hc => hD c (List.mem_of_mem_take hc)) (by rw [List.length_take]; omega)

/-- What Parse answers. -/
def parseW (l : List UInt8) : Nat × Nat :=
  if 400 < l.length then (0, 2) else
  match numL l with
  | none => (0, 4)
  | some (D, E) => (decN (dv D 0) E, 0)
theorem parseW_long {l : List UInt8} (h : 400 < l.length) : parseW l = (0, 2) := by unfold parseW; rw [if_pos h]
theorem parseW_none {l : List UInt8} (h : l.length ≤ 400) (h2 : numL l = none) : parseW l = (0, 4) := by unfold parseW; rw [if_neg (by omega), h2]
theorem parseW_some {l D : List UInt8} {E : Int} (h : l.length ≤ 400) (h2 : numL l = some (D, E)) : parseW l = (decN (dv D 0) E, 0) := by unfold parseW; rw [if_neg (by omega), h2]

set_option maxHeartbeats 1000000 in
theorem parse_any (l : List UInt8) (w : World) (hl : l.length ≤ maxLen) :
    Calls Tryd.prog 30 #[.string (bs l)] w fun e w' => e = .returned (.tuple #[.int .u64 ((parseW l).1 : Nat), .int .i64 ((parseW l).2 : Nat)]) ∧ Below w.heap.size w w' := by
  have hsz := bs_size l
  unfold maxLen at hl
  by_cases c : 400 < l.length
  · rw [parseW_long c]
    have h1 : (400 : Int) < ((bs l).size : Int) := by omega
    clear c hl
    generalize bs l = s at *
    clear hsz
    go_enter Tryd.func30, Tryd.ntmps30
    go_wp2
    go_ret2
    exact ⟨rfl, Below.refl _ _⟩
  · have h1 : ¬ (400 : Int) < ((bs l).size : Int) := by omega
    cases hn : numL l with
    | none =>
      rw [parseW_none (by omega) hn]
      have HR : Hid (∀ w, Calls Tryd.prog 32 #[.string (bs l)] w fun e w' => e = .returned (.tuple #[.agg #[.string ⟨#[]⟩, .int .i64 0], .bool false]) ∧ Below w.heap.size w w') := fun w => read_none l w (by omega) hn
      clear hn c hl
      generalize bs l = s at *
      clear hsz
      go_enter Tryd.func30, Tryd.ntmps30
      go_wp2_with (go_at_call 32; refine (HR.out _).mono ?_; rintro e w1 ⟨rfl, hb1⟩)
      go_ret2
      exact ⟨rfl, hb1.alloc hb1.size _⟩
    | some p =>
      obtain ⟨D, E⟩ := p
      rw [parseW_some (by omega) hn]
      obtain ⟨hD, hDl⟩ := numL_all hn
      have HR : Hid (∀ w, Calls Tryd.prog 32 #[.string (bs l)] w fun e w' => (∃ x, Held x E ∧ -41000 ≤ x ∧ x ≤ 41000 ∧ e = .returned (.tuple #[.agg #[.string (bs D), .int .i64 x], .bool true])) ∧ Below w.heap.size w w') := fun w => read_yes l D E w (by omega) hn
      have HX : Hid (∀ x w, Held x E → -41000 ≤ x → x ≤ 41000 → Calls Tryd.prog 33 #[.agg #[.string (bs D), .int .i64 x]] w fun e w' => e = .returned (.int .u64 (decN (dv D 0) E : Nat)) ∧ Below w.heap.size w w') := by
        intro x w h0 h1 h2
        rw [← dec_held (dv_bound hD (by omega)) h0]
        exact nearest_any D x w hD (by omega) h1 h2
      clear hn c hl hD hDl
      generalize bs l = s at *
      clear hsz
      go_enter Tryd.func30, Tryd.ntmps30
      go_wp2_with fail
      refine (HR.out _).mono ?_
      rintro e w1 ⟨⟨x, hx0, hx1, hx2, rfl⟩, hb1⟩
      have HH : Hid (Held x E) := hx0
      clear hx0
      go_wp2_with fail
      refine (HX.out x _ HH.out hx1 hx2).mono ?_
      rintro e w2 ⟨rfl, hb2⟩
      go_wp2
      go_ret2
      exact ⟨rfl, (hb1.alloc hb1.size _).trans (hb2.mono (by have := hb1.size; simp; omega))⟩

end Go.Proofs.YtfhoimfjfbbhaaaDoor

/-
  Plain mathematics of layer 10: how a text is cut into words. No Go in sight.
-/
namespace Go.Proofs.YtfhoimfjfbbhaaaDoor.Lx
set_option maxRecDepth 100000
open Go.Proofs.YtfhoimfjfbbhaaaDoor Go.Proofs.YtfhoimfjfbbhaaaDoor.Txt

/-- The byte at the front, a line feed behind the end. -/
def hb (l : List UInt8) : UInt8 := l.headD 10
def isB (c : UInt8) : Bool := c == 32 || c == 9 || c == 10 || c == 13
def isN (c : UInt8) : Bool := decide (97 ≤ c.toNat ∧ c.toNat ≤ 122) || decide (65 ≤ c.toNat ∧ c.toNat ≤ 90) || c == 95 || isD c
def noL (c : UInt8) : Bool := c != 10
/-- How many at the front. -/
def cnt (p : UInt8 → Bool) (l : List UInt8) : Nat := (l.takeWhile p).length
theorem cnt_le (p : UInt8 → Bool) (l : List UInt8) : cnt p l ≤ l.length := by
  unfold cnt
  exact (List.takeWhile_prefix p).length_le
theorem cnt_nil (p : UInt8 → Bool) : cnt p [] = 0 := rfl
theorem cnt_pos {p : UInt8 → Bool} {l : List UInt8} (h10 : p 10 = false) (h : p (hb l) = true) : cnt p l = cnt p (l.drop 1) + 1 ∧ 0 < l.length := by
  cases l with
  | nil => exact absurd h (by rw [show hb [] = 10 from rfl, h10]; simp)
  | cons c r => have h' : p c = true := h; unfold cnt; simp [h']
theorem cnt_zero {p : UInt8 → Bool} {l : List UInt8} (h : p (hb l) = false) : cnt p l = 0 := by
  cases l with
  | nil => rfl
  | cons c r => have h' : p c = false := h; unfold cnt; simp [h']
theorem cnt_split (p : UInt8 → Bool) (l m : List UInt8) (h10 : p 10 = false) : cnt p (l ++ 10 :: m) = cnt p l := by
  unfold cnt
  induction l with
  | nil => simp [h10]
  | cons c r ih =>
    by_cases hc : p c = true
    · simp [hc, ih]
    · simp [hc]
theorem cnt_stop {p : UInt8 → Bool} (h10 : p 10 = false) (l : List UInt8) : p (hb (l.drop (cnt p l))) = false := by
  unfold cnt
  induction l with
  | nil => exact h10
  | cons c r ih =>
    by_cases hc : p c = true
    · simpa [hc] using ih
    · simp only [Bool.not_eq_true] at hc
      simp [hc, hb]

/-- How many blanks and comments stand at the front; the flag: within a comment. -/
def sk : Bool → List UInt8 → Nat
  | _, [] => 0
  | true, c :: r => if c = 10 then 1 + sk false r else 1 + sk true r
  | false, c :: r => if isB c then 1 + sk false r else if c = 45 ∧ hb r = 45 then 1 + sk true r else 0
theorem sk_t (c : UInt8) (r : List UInt8) : sk true (c :: r) = if c = 10 then 1 + sk false r else 1 + sk true r := rfl
theorem sk_f (c : UInt8) (r : List UInt8) : sk false (c :: r) = if isB c then 1 + sk false r else if c = 45 ∧ hb r = 45 then 1 + sk true r else 0 := rfl
theorem sk_le : ∀ (l : List UInt8) (f : Bool), sk f l ≤ l.length := by
  intro l
  induction l with
  | nil => intro f; cases f <;> exact Nat.le_refl _
  | cons c r ih =>
    intro f
    have h1 := ih true
    have h2 := ih false
    cases f <;> unfold sk <;> simp only [List.length_cons] <;> repeat' split
    all_goals omega
theorem sk_true : ∀ (l : List UInt8), sk true l = cnt noL l + sk false (l.drop (cnt noL l)) := by
  intro l
  induction l with
  | nil => rfl
  | cons c r ih =>
    by_cases hc : c = 10
    · subst hc
      have e : cnt noL (10 :: r) = 0 := rfl
      rw [e]
      simp [sk, isB]
    · have e : cnt noL (c :: r) = cnt noL r + 1 := by unfold cnt noL; simp [hc]
      rw [e, List.drop_succ_cons]
      rw [sk_t, if_neg hc, ih]
      omega
theorem sk_blank {l : List UInt8} (h0 : 0 < l.length) (h : isB (hb l) = true) : sk false l = sk false (l.drop 1) + 1 := by
  cases l with
  | nil => simp at h0
  | cons c r =>
    have h' : isB c = true := h
    rw [sk_f, if_pos h', List.drop_succ_cons, List.drop_zero]
    omega
/-- Two - signs at the front. -/
def dd (l : List UInt8) : Bool := List.isPrefixOf [45, 45] l
theorem dd_iff (l : List UInt8) : dd l = true ↔ ∃ r, l = 45 :: 45 :: r := by
  unfold dd
  match l with
  | [] => simp
  | [a] => simp [List.isPrefixOf]
  | a :: b :: r => simp [List.isPrefixOf]; constructor <;> (rintro ⟨h1, h2⟩; exact ⟨h1.symm, h2.symm⟩)
theorem sk_comment {l : List UInt8} (h : isB (hb l) = false) (h2 : dd l = true) : sk false l = cnt noL l + sk false (l.drop (cnt noL l)) := by
  obtain ⟨r, rfl⟩ := (dd_iff l).1 h2
  rw [← sk_true]
  rfl
theorem sk_word {l : List UInt8} (h0 : 0 < l.length) (h : isB (hb l) = false) (h2 : dd l = false) : sk false l = 0 := by
  cases l with
  | nil => simp at h0
  | cons c r =>
    have h' : isB c = false := h
    unfold sk
    rw [if_neg (by rw [h']; simp), if_neg ?_]
    rintro ⟨rfl, hr⟩
    cases r with
    | nil => exact absurd hr (by decide)
    | cons d r =>
      have hr' : d = 45 := hr
      subst hr'
      rw [(dd_iff _).2 ⟨r, rfl⟩] at h2
      simp at h2
theorem sk_end (l : List UInt8) (h : sk false l < l.length) : isB (hb (l.drop (sk false l))) = false ∧ dd (l.drop (sk false l)) = false := by
  suffices H : ∀ (l : List UInt8) (f : Bool), sk f l < l.length → isB (hb (l.drop (sk f l))) = false ∧ dd (l.drop (sk f l)) = false from H l false h
  intro l
  induction l with
  | nil => intro f h; simp at h
  | cons c r ih =>
    intro f h
    cases f with
    | true =>
      by_cases hc : c = 10
      · have e : sk true (c :: r) = sk false r + 1 := by rw [sk_t, if_pos hc]; omega
        rw [e] at h ⊢
        rw [List.drop_succ_cons]
        exact ih false (by simpa using h)
      · have e : sk true (c :: r) = sk true r + 1 := by rw [sk_t, if_neg hc]; omega
        rw [e] at h ⊢
        rw [List.drop_succ_cons]
        exact ih true (by simpa using h)
    | false =>
      by_cases hb1 : isB c = true
      · have e : sk false (c :: r) = sk false r + 1 := by rw [sk_f, if_pos hb1]; omega
        rw [e] at h ⊢
        rw [List.drop_succ_cons]
        exact ih false (by simpa using h)
      · by_cases h45 : c = 45 ∧ hb r = 45
        · have e : sk false (c :: r) = sk true r + 1 := by rw [sk_f, if_neg hb1, if_pos h45]; omega
          rw [e] at h ⊢
          rw [List.drop_succ_cons]
          exact ih true (by simpa using h)
        · have e : sk false (c :: r) = 0 := by rw [sk_f, if_neg hb1, if_neg h45]
          rw [e, List.drop_zero]
          refine ⟨by have : isB c = false := by simpa using hb1
                     exact this, ?_⟩
          by_cases hd : dd (c :: r) = true
          · obtain ⟨r2, e2⟩ := (dd_iff _).1 hd
            injection e2 with e3 e4
            subst e3 e4
            exact absurd ⟨rfl, rfl⟩ h45
          · simpa using hd

/-- How far an exponent's digits would stand. -/
def xpo (l : List UInt8) : Nat := if hb l = 101 ∨ hb l = 69 then (if hb (l.drop 1) = 43 ∨ hb (l.drop 1) = 45 then 2 else 1) else 0
/-- How long a dot and digits are. -/
def dotl (l : List UInt8) : Nat := if hb l = 46 ∧ isD (hb (l.drop 1)) = true then cnt isD (l.drop 1) + 1 else 0
/-- How long an exponent is. -/
def exql (l : List UInt8) : Nat := if isD (hb (l.drop (xpo l))) = true then xpo l + cnt isD (l.drop (xpo l)) else 0
/-- How long a numeral is. -/
def numLen (l : List UInt8) : Nat :=
  cnt isD l + dotl (l.drop (cnt isD l)) + exql (l.drop (cnt isD l + dotl (l.drop (cnt isD l))))

/-- A word: its kind, how long it is in the script, what it says, its number. -/
structure Wd where
  k : Nat
  len : Nat
  s : List UInt8
  n : Nat

def keysL : List (List UInt8) := [[97, 110, 100], [98, 114, 101, 97, 107], [100, 111], [101, 108, 115, 101], [101, 108, 115, 101, 105, 102], [101, 110, 100], [102, 97, 108, 115, 101], [102, 111, 114], [102, 117, 110, 99, 116, 105, 111, 110],
  [105, 102], [108, 111, 99, 97, 108], [110, 105, 108], [110, 111, 116], [111, 114], [114, 101, 116, 117, 114, 110], [116, 104, 101, 110], [116, 114, 117, 101], [119, 104, 105, 108, 101]]
def signsL : List (List UInt8) := [[46, 46], [61, 61], [126, 61], [60, 61], [62, 61], [43], [45], [42], [47], [37], [61], [60], [62], [40], [41], [123], [125], [91], [93], [44], [59], [46], [35]]
def isKey (s : List UInt8) : Bool := keysL.contains s

def nameW (l : List UInt8) : (Nat × Nat) ⊕ Wd := .inr ⟨if isKey (l.take (cnt isN l)) then 1 else 0, cnt isN l, l.take (cnt isN l), 0⟩
def numW (l : List UInt8) : (Nat × Nat) ⊕ Wd :=
  if (parseW (l.take (numLen l))).2 ≠ 0 then .inl (0, (parseW (l.take (numLen l))).2)
  else if isN (hb (l.drop (numLen l))) = true then .inl (numLen l, 4)
  else .inr ⟨2, numLen l, [], (parseW (l.take (numLen l))).1⟩

def esc (c : UInt8) : Option UInt8 := if c = 110 then some 10 else if c = 116 then some 9 else if c = 34 ∨ c = 92 then some c else none
/-- What stands behind a text's beginning: how far it reaches, where the first escape stands that is none, what it says; nothing, if it has no end. -/
def txt : List UInt8 → Nat → Option Nat → List UInt8 → Option (Nat × Option Nat × List UInt8)
  | [], _, _, _ => none
  | [c], p, o, a => if c = 34 then some (p + 1, o, a) else none
  | c :: d :: r, p, o, a =>
    if c = 34 then some (p + 1, o, a) else if c = 10 then none else
    if c = 92 then
      match esc d with
      | some e => txt r (p + 2) o (a ++ [e])
      | none => txt (d :: r) (p + 1) (o.or (some p)) (a ++ [c])
    else txt (d :: r) (p + 1) o (a ++ [c])
def textW (l : List UInt8) : (Nat × Nat) ⊕ Wd :=
  match txt (l.drop 1) 1 none [] with
  | none => .inl (0, 4)
  | some (p, o, a) =>
    match o with
    | some q => .inl (q, 4)
    | none => if 16384 < a.length then .inl (0, 2) else .inr ⟨3, p, a, 0⟩
def signW (l : List UInt8) : (Nat × Nat) ⊕ Wd :=
  match signsL.find? (fun s => s.isPrefixOf l) with
  | some s => .inr ⟨1, s.length, s, 0⟩
  | none => .inl (0, 4)
def wordW (l : List UInt8) : (Nat × Nat) ⊕ Wd :=
  if isD (hb l) = true then numW l else if isN (hb l) = true then nameW l else if hb l = 34 then textW l else signW l

/-- A word where it stands. -/
structure Tk where
  k : Nat
  pos : Nat
  s : List UInt8
  n : Nat
def lexL : Nat → Nat → List UInt8 → List Tk → (Nat × Nat) ⊕ List Tk
  | 0, _, _, _ => .inl (0, 0)
  | f + 1, off, l, acc =>
    if sk false l < l.length then
      match wordW (l.drop (sk false l)) with
      | .inl (o, e) => .inl (off + sk false l + o, e)
      | .inr d =>
        if acc.length = 16384 then .inl (off + sk false l, 2)
        else lexL f (off + sk false l + d.len) (l.drop (sk false l + d.len)) (acc ++ [⟨d.k, off + sk false l, d.s, d.n⟩])
    else .inr (acc ++ [⟨4, off + l.length, [], 0⟩])
def wordsF (l : List UInt8) : (Nat × Nat) ⊕ List Tk := if 65536 < l.length then .inl (0, 2) else lexL (l.length + 1) 0 l []

end Go.Proofs.YtfhoimfjfbbhaaaDoor.Lx

/-
  Layer 10: a reader in memory, and what its methods leave as it was.
-/
namespace Go.Proofs.YtfhoimfjfbbhaaaDoor
set_option maxRecDepth 100000
open Go.RowKit Txt Lx

/-- A reader in the block b, of the script l, that stands at a. -/
structure Rd (w : World) (b : Nat) (l : List UInt8) (a : Nat) : Prop where
  c0 : w.cell? ⟨b, 0, none⟩ = some (.string (bs l))
  c1 : w.cell? ⟨b, 1, none⟩ = some (.int .i64 a)
  fz : ∀ i, w.frozen? ⟨b, i, none⟩ = false
theorem Rd.lt {w : World} {b : Nat} {l : List UInt8} {a : Nat} (h : Rd w b l a) : b < w.heap.size := World.block_lt_of_cell? w _ h.c0
theorem Rd.kept {w w' : World} {b : Nat} {l : List UInt8} {a : Nat} (h : Rd w b l a) (e : w'.heap[b]? = w.heap[b]?) : Rd w' b l a :=
  ⟨(World.cell?_of_block (w := w) (a := ⟨b, 0, none⟩) e).trans h.c0, (World.cell?_of_block (w := w) (a := ⟨b, 1, none⟩) e).trans h.c1, fun i => (World.frozen?_of_block (w := w) (a := ⟨b, i, none⟩) e).trans (h.fz i)⟩
theorem Rd.below {w w' : World} {b : Nat} {l : List UInt8} {a : Nat} (h : Rd w b l a) (e : Below w.heap.size w w') : Rd w' b l a := h.kept (e.block b h.lt)
theorem Rd.set {w : World} {b : Nat} {l : List UInt8} {a : Nat} (h : Rd w b l a) (a' : Nat) : Rd (w.setCell ⟨b, 1, none⟩ (.int .i64 a')) b l a' := by
  refine ⟨?_, World.cell?_setCell_same _ _ _ h.c1, fun i => by rw [World.frozen?_setCell]; exact h.fz i⟩
  rw [World.cell?_setCell_other _ _ _ _ (by simp)]
  exact h.c0
theorem Rd.drew {w : World} {b : Nat} {l : List UInt8} {a : Nat} (h : Rd w b l a) : Rd w.drew b l a := h.kept rfl

/-- Nothing that was there is written but the block b. -/
structure Kb (b : Nat) (w w' : World) : Prop where
  os : w'.os = w.os
  tape : w'.tape = w.tape
  output : w'.output = w.output
  size : w.heap.size ≤ w'.heap.size
  block : ∀ k, k < w.heap.size → k ≠ b → w'.heap[k]? = w.heap[k]?
theorem Kb.refl (b : Nat) (w : World) : Kb b w w := ⟨rfl, rfl, rfl, Nat.le_refl _, fun _ _ _ => rfl⟩
theorem Kb.trans {b : Nat} {x y z : World} (h : Kb b x y) (k : Kb b y z) : Kb b x z :=
  ⟨k.os.trans h.os, k.tape.trans h.tape, k.output.trans h.output, Nat.le_trans h.size k.size, fun i hi hb => (k.block i (Nat.lt_of_lt_of_le hi h.size) hb).trans (h.block i hi hb)⟩
theorem Kb.of_below {b : Nat} {w w' : World} (h : Below w.heap.size w w') : Kb b w w' := ⟨h.os, h.tape, h.output, h.size, fun k hk _ => h.block k hk⟩
theorem Kb.set (b i : Nat) (v : Value) (w : World) : Kb b w (w.setCell ⟨b, i, none⟩ v) := by
  have h : Below b w (w.setCell ⟨b, i, none⟩ v) := (Below.refl _ _).setCell (p := ⟨b, i, none⟩) (Nat.le_refl _) v
  exact ⟨h.os, h.tape, h.output, h.size, fun k _ hk => heap_setCell_other _ _ _ _ hk⟩
theorem Kb.drew (b : Nat) (w : World) : Kb b w w.drew := Kb.of_below (Below.refl _ _).drew
theorem Kb.alloc (b : Nat) (w : World) (o : Obj) : Kb b w (w.alloc o) := Kb.of_below ((Below.refl _ _).alloc (Nat.le_refl _) o)
theorem Kb.below {b B : Nat} {w w' : World} (h : Kb b w w') (hB : B ≤ b) (hs : B ≤ w.heap.size) : Below B w w' :=
  ⟨h.os, h.tape, h.output, h.size, fun k hk => h.block k (by omega) (by omega)⟩
/-- What is new since w may be written too. -/
theorem Kb.more {b : Nat} {x y z : World} (h : Kb b x y) (k : Below x.heap.size y z) : Kb b x z :=
  ⟨k.os.trans h.os, k.tape.trans h.tape, k.output.trans h.output, Nat.le_trans h.size k.size, fun i hi hb => (k.block i hi).trans (h.block i hi hb)⟩

theorem below_dr (B : Nat) (w : World) (n : Nat) : Below B w (w.drewN n) := ⟨rfl, rfl, rfl, Nat.le_refl _, fun _ _ => rfl⟩
/-- What a reader gives up with: the place and the error. -/
def fell (a e : Nat) : Ending := .panicked [{ v := .iface 36 (.agg #[.int .i64 a, .int .i64 e]), recovered := false }]

end Go.Proofs.YtfhoimfjfbbhaaaDoor

/-
  Layer 10: the landed reader's small functions, walked.
-/
namespace Go.Proofs.YtfhoimfjfbbhaaaDoor
set_option maxRecDepth 100000
open Go.RowKit Txt Lx

theorem u8_eq (c d : UInt8) : (c == d) = decide ((c.toNat : Int) = (d.toNat : Int)) := by
  by_cases h : c = d
  · subst h; simp
  · rw [beq_eq_false_iff_ne.2 h]
    symm
    apply decide_eq_false
    intro e
    exact h (UInt8.toNat_inj.1 (by omega))

theorem isDigit_gen (n : Nat) (r : Bool) (w : World) (hr : r = decide (48 ≤ n ∧ n ≤ 57)) : Calls Tryd.prog 20 #[.int .u8 n] w fun e w' => e = .returned (.bool r) ∧ w' = w := by
  by_cases h1 : (48 : Int) ≤ (n : Int)
  · by_cases h2 : (n : Int) ≤ 57
    · rw [decide_eq_true (by omega)] at hr
      subst hr
      go_enter Tryd.func20, Tryd.ntmps20
      go_wp2
      go_ret
      exact ⟨rfl, rfl⟩
    · rw [decide_eq_false (by omega)] at hr
      subst hr
      go_enter Tryd.func20, Tryd.ntmps20
      go_wp2
      go_ret
      exact ⟨rfl, rfl⟩
  · rw [decide_eq_false (by omega)] at hr
    subst hr
    go_enter Tryd.func20, Tryd.ntmps20
    go_wp2
    go_ret
    exact ⟨rfl, rfl⟩
theorem isDigit_any (c : UInt8) (w : World) : Calls Tryd.prog 20 #[.int .u8 c.toNat] w fun e w' => e = .returned (.bool (isD c)) ∧ w' = w :=
  isDigit_gen _ _ w rfl

theorem isBlank_gen (n : Nat) (r : Bool) (w : World) (hr : r = decide ((n : Int) = 32 ∨ (n : Int) = 9 ∨ (n : Int) = 10 ∨ (n : Int) = 13)) : Calls Tryd.prog 17 #[.int .u8 n] w fun e w' => e = .returned (.bool r) ∧ w' = w := by
  by_cases h1 : (n : Int) = 32
  · rw [decide_eq_true (by omega)] at hr
    subst hr
    go_enter Tryd.func17, Tryd.ntmps17
    go_wp2
    go_ret
    exact ⟨rfl, rfl⟩
  · by_cases h2 : (n : Int) = 9
    · rw [decide_eq_true (by omega)] at hr
      subst hr
      go_enter Tryd.func17, Tryd.ntmps17
      go_wp2
      go_ret
      exact ⟨rfl, rfl⟩
    · by_cases h3 : (n : Int) = 10
      · rw [decide_eq_true (by omega)] at hr
        subst hr
        go_enter Tryd.func17, Tryd.ntmps17
        go_wp2
        go_ret
        exact ⟨rfl, rfl⟩
      · by_cases h4 : (n : Int) = 13
        · rw [decide_eq_true (by omega)] at hr
          subst hr
          go_enter Tryd.func17, Tryd.ntmps17
          go_wp2
          go_ret
          exact ⟨rfl, rfl⟩
        · rw [decide_eq_false (by omega)] at hr
          subst hr
          have e1 : ((n : Int) == 32) = false := beq_eq_false_iff_ne.2 h1
          have e2 : ((n : Int) == 9) = false := beq_eq_false_iff_ne.2 h2
          have e3 : ((n : Int) == 10) = false := beq_eq_false_iff_ne.2 h3
          have e4 : ((n : Int) == 13) = false := beq_eq_false_iff_ne.2 h4
          go_enter Tryd.func17, Tryd.ntmps17
          go_wp2
          go_ret
          exact ⟨rfl, rfl⟩
theorem isBlank_any (c : UInt8) (w : World) : Calls Tryd.prog 17 #[.int .u8 c.toNat] w fun e w' => e = .returned (.bool (isB c)) ∧ w' = w := by
  refine isBlank_gen _ _ w ?_
  unfold isB
  rw [u8_eq c 32, u8_eq c 9, u8_eq c 10, u8_eq c 13]
  rw [show ((UInt8.toNat 32 : Nat) : Int) = 32 from rfl, show ((UInt8.toNat 9 : Nat) : Int) = 9 from rfl, show ((UInt8.toNat 10 : Nat) : Int) = 10 from rfl, show ((UInt8.toNat 13 : Nat) : Int) = 13 from rfl]
  rw [Bool.eq_iff_iff]
  simp [or_assoc]

set_option maxHeartbeats 400000 in
theorem byteAt_any (b a i : Nat) (l : List UInt8) (w : World) (h : Rd w b l a) (hl : l.length ≤ 65536) (_hi : i ≤ 1000000) :
    Calls Tryd.prog 27 #[.pointer (some ⟨b, 0, none⟩), .int .i64 i] w fun e w' => e = .returned (.int .u8 (hb (l.drop i)).toNat) ∧ w' = w := by
  have hc := h.c0
  have hsz := bs_size l
  by_cases c : i < l.length
  · have hg : (bs l)[i]'(by omega) = hb (l.drop i) := by
      rw [bs_get, List.drop_eq_getElem_cons c]; rfl
    have c2 : i < (bs l).size := by omega
    have c3 : (bs l).size ≤ 65536 := by omega
    have HG : Hid ((bs l)[i]'c2 = hb (l.drop i)) := hg
    rw [← HG.out]
    clear HG hg h
    generalize bs l = s at *
    clear hsz
    go_enter Tryd.func27, Tryd.ntmps27
    go_wp2
    go_ret
    exact ⟨rfl, rfl⟩
  · have hg : hb (l.drop i) = 10 := by rw [List.drop_eq_nil_of_le (by omega)]; rfl
    rw [hg]
    have c2 : ¬ i < (bs l).size := by omega
    have c3 : (bs l).size ≤ 65536 := by omega
    clear hg hsz h
    generalize bs l = s at *
    go_enter Tryd.func27, Tryd.ntmps27
    go_wp2
    go_ret
    exact ⟨rfl, rfl⟩

theorem escaped_any (c : UInt8) (w : World) : Calls Tryd.prog 31 #[.int .u8 c.toNat] w fun e w' =>
    e = .returned (.tuple #[.int .u8 ((esc c).getD 0).toNat, .bool (esc c).isSome]) ∧ w' = w := by
  have k : ∀ d : UInt8, c = d ↔ (c.toNat : Int) = (d.toNat : Int) := fun d => ⟨fun h => by rw [h], fun h => UInt8.toNat_inj.1 (by omega)⟩
  by_cases h1 : c = 110
  · subst h1
    go_enter Tryd.func31, Tryd.ntmps31
    go_wp2
    go_ret2
    exact ⟨rfl, rfl⟩
  · by_cases h2 : c = 116
    · subst h2
      go_enter Tryd.func31, Tryd.ntmps31
      go_wp2
      go_ret2
      exact ⟨rfl, rfl⟩
    · by_cases h3 : c = 34
      · subst h3
        go_enter Tryd.func31, Tryd.ntmps31
        go_wp2
        go_ret2
        exact ⟨rfl, rfl⟩
      · by_cases h4 : c = 92
        · subst h4
          go_enter Tryd.func31, Tryd.ntmps31
          go_wp2
          go_ret2
          exact ⟨rfl, rfl⟩
        · have e : esc c = none := by unfold esc; simp [h1, h2, h3, h4]
          rw [e]
          rw [k] at h1 h2 h3 h4
          clear k e
          generalize c.toNat = n at *
          rw [show ((UInt8.toNat 110 : Nat) : Int) = 110 from rfl] at h1
          rw [show ((UInt8.toNat 116 : Nat) : Int) = 116 from rfl] at h2
          rw [show ((UInt8.toNat 34 : Nat) : Int) = 34 from rfl] at h3
          rw [show ((UInt8.toNat 92 : Nat) : Int) = 92 from rfl] at h4
          go_enter Tryd.func31, Tryd.ntmps31
          go_wp2
          go_ret2
          exact ⟨rfl, rfl⟩

theorem isOfName_gen (n : Nat) (d r : Bool) (w : World) (hdig : Calls Tryd.prog 20 #[.int .u8 n] w fun e w' => e = .returned (.bool d) ∧ w' = w)
    (hr : r = (decide ((97 : Int) ≤ (n : Int) ∧ (n : Int) ≤ 122 ∨ (65 : Int) ≤ (n : Int) ∧ (n : Int) ≤ 90 ∨ (n : Int) = 95) || d)) : Calls Tryd.prog 22 #[.int .u8 n] w fun e w' => e = .returned (.bool r) ∧ w' = w := by
  by_cases h1 : (97 : Int) ≤ (n : Int) ∧ (n : Int) ≤ 122
  · rw [decide_eq_true (by omega), Bool.true_or] at hr
    subst hr
    obtain ⟨h1, h2⟩ := h1
    go_enter Tryd.func22, Tryd.ntmps22
    go_wp2
    go_ret
    exact ⟨rfl, rfl⟩
  · by_cases h3 : (65 : Int) ≤ (n : Int) ∧ (n : Int) ≤ 90
    · rw [decide_eq_true (by omega), Bool.true_or] at hr
      subst hr
      obtain ⟨h3, h4⟩ := h3
      have h5 : ¬ (97 : Int) ≤ (n : Int) := by omega
      clear h1
      go_enter Tryd.func22, Tryd.ntmps22
      go_wp2
      go_ret
      exact ⟨rfl, rfl⟩
    · by_cases h6 : (n : Int) = 95
      · rw [decide_eq_true (by omega), Bool.true_or] at hr
        subst hr
        have h7 : (65 : Int) ≤ (n : Int) := by omega
        have h8 : ¬ (97 : Int) ≤ (n : Int) := by omega
        have h9 : ¬ (n : Int) ≤ 90 := by omega
        clear h1 h3
        go_enter Tryd.func22, Tryd.ntmps22
        go_wp2
        go_ret
        exact ⟨rfl, rfl⟩
      · rw [decide_eq_false (by omega), Bool.false_or] at hr
        subst hr
        have e1 : ((n : Int) == 95) = false := beq_eq_false_iff_ne.2 h6
        by_cases g1 : (97 : Int) ≤ (n : Int)
        · have g2 : ¬ (n : Int) ≤ 122 := by omega
          have g3 : (65 : Int) ≤ (n : Int) := by omega
          have g4 : ¬ (n : Int) ≤ 90 := by omega
          clear h1 h3
          go_enter Tryd.func22, Tryd.ntmps22
          go_wp2_with fail
          refine hdig.mono ?_
          rintro e w1 ⟨rfl, rfl⟩
          go_wp2
          go_ret
          exact ⟨rfl, rfl⟩
        · by_cases g3 : (65 : Int) ≤ (n : Int)
          · have g4 : ¬ (n : Int) ≤ 90 := by omega
            clear h1 h3
            go_enter Tryd.func22, Tryd.ntmps22
            go_wp2_with fail
            refine hdig.mono ?_
            rintro e w1 ⟨rfl, rfl⟩
            go_wp2
            go_ret
            exact ⟨rfl, rfl⟩
          · clear h1 h3
            go_enter Tryd.func22, Tryd.ntmps22
            go_wp2_with fail
            refine hdig.mono ?_
            rintro e w1 ⟨rfl, rfl⟩
            go_wp2
            go_ret
            exact ⟨rfl, rfl⟩
theorem isOfName_any (c : UInt8) (w : World) : Calls Tryd.prog 22 #[.int .u8 c.toNat] w fun e w' => e = .returned (.bool (isN c)) ∧ w' = w := by
  refine isOfName_gen _ _ _ w (isDigit_any c w) ?_
  unfold isN
  rw [u8_eq c 95, show ((UInt8.toNat 95 : Nat) : Int) = 95 from rfl, Bool.eq_iff_iff]
  simp only [Bool.or_eq_true, decide_eq_true_eq, or_assoc]
  exact or_congr (by omega) (or_congr (by omega) Iff.rfl)

end Go.Proofs.YtfhoimfjfbbhaaaDoor

/-
  Layer 10: the landed reader's ways on: over a line, over digits, over blanks and comments.
-/
namespace Go.Proofs.YtfhoimfjfbbhaaaDoor
set_option maxRecDepth 100000
open Go.RowKit Txt Lx

theorem pref_eq (p l : List UInt8) : (l.take p.length == p) = p.isPrefixOf l := by
  rw [Bool.eq_iff_iff, beq_iff_eq, List.isPrefixOf_iff_prefix, List.prefix_iff_eq_take]
  exact eq_comm
set_option maxHeartbeats 400000 in
theorem prefLite_gen (l p : List UInt8) (w : World) (hl : l.length ≤ 1000000) (hp : p.length ≤ 1000000) :
    Calls Tryd.prog 26 #[.string (bs l), .string (bs p)] w fun e w' => e = .returned (.bool (p.isPrefixOf l)) ∧ w' = w := by
  have h0 : (bs l).size = l.length := bs_size _
  have h1 : (bs p).size = p.length := bs_size _
  by_cases c : p.length ≤ l.length
  · have e : p.isPrefixOf l = (((bs l).extract 0 p.length).toList == (bs p).toList) := by
      rw [bs_extract, bs_toList, bs_toList, List.drop_zero, Nat.sub_zero, pref_eq]
    rw [e, ← h1]
    have c1 : (bs p).size ≤ (bs l).size := by omega
    have c2 : (bs l).size ≤ 1000000 := by omega
    clear e h0 h1 c hl hp
    generalize bs l = s at *
    generalize bs p = t at *
    go_enter Tryd.func26, Tryd.ntmps26
    go_wp2
    go_ret
    exact ⟨rfl, rfl⟩
  · have e : p.isPrefixOf l = false := by
      rw [← Bool.not_eq_true, List.isPrefixOf_iff_prefix]
      intro h
      exact c h.length_le
    rw [e]
    have c1 : ¬ (bs p).size ≤ (bs l).size := by omega
    have c2 : (bs l).size ≤ 1000000 := by omega
    have c3 : (bs p).size ≤ 1000000 := by omega
    clear e h0 h1 c hl hp
    generalize bs l = s at *
    generalize bs p = t at *
    go_enter Tryd.func26, Tryd.ntmps26
    go_wp2
    go_ret
    exact ⟨rfl, rfl⟩
theorem pref_gen (l p : List UInt8) (w : World) (hl : l.length ≤ 1000000) (hp : p.length ≤ 1000000) :
    Calls Tryd.prog 18 #[.string (bs l), .string (bs p)] w fun e w' => e = .returned (.bool (p.isPrefixOf l)) ∧ w' = w := by
  go_enter Tryd.func18, Tryd.ntmps18
  go_wp2_with (go_at_call 26; refine (prefLite_gen l p _ hl hp).mono ?_; rintro e w' ⟨rfl, rfl⟩)
  go_ret
  exact ⟨rfl, rfl⟩

/-- From w on the reader went on by n. -/
def Went (b : Nat) (l : List UInt8) (a : Nat) (w w' : World) : Prop := Kb b w w' ∧ Rd w' b l a

set_option maxHeartbeats 400000 in
theorem passLine_any (b a : Nat) (l : List UInt8) (w : World) (h : Rd w b l a) (hl : l.length ≤ 65536) (ha : a ≤ l.length) :
    Calls Tryd.prog 19 #[.pointer (some ⟨b, 0, none⟩)] w fun e w' => e = .returned (.tuple #[]) ∧ Went b l (a + cnt noL (l.drop a)) w w' := by
  have HW : Hid (Went b l a w w) := ⟨Kb.refl _ _, h⟩
  clear h
  go_enter Tryd.func19, Tryd.ntmps19
  go_wp2_with fail
  go_loopg [] (l.length - a) (fun k wr => ∃ i : Nat, i ≤ l.length ∧ Hid (k = l.length - i ∧ Went b l i w wr ∧ i + cnt noL (l.drop i) = a + cnt noL (l.drop a)))
  case atStart => exact ⟨a, ha, ⟨rfl, HW.out, rfl⟩⟩
  case round =>
    obtain ⟨i, hi, HI⟩ := hrel
    obtain ⟨hk, ⟨hkb, hrd⟩, hcn⟩ := HI.out
    have hcell := hrd.c1
    have hfz := hrd.fz 1
    have hbyte := byteAt_any b i i l wr hrd hl (by omega)
    by_cases c : noL (hb (l.drop i)) = true
    · have hn : ¬ ((hb (l.drop i)).toNat : Int) = 10 := by
        intro e
        have : hb (l.drop i) = 10 := UInt8.toNat_inj.1 (by have h10 : (10 : UInt8).toNat = 10 := rfl; omega)
        rw [this] at c
        simp [noL] at c
      obtain ⟨c1, c2⟩ := cnt_pos (p := noL) rfl c
      rw [List.length_drop] at c2
      have HN : Hid (l.length - (i + 1) < gk ∧ Went b l (i + 1) w (wr.setCell ⟨b, 1, none⟩ (.int .i64 ((i + 1 : Nat) : Int))) ∧ (i + 1) + cnt noL (l.drop (i + 1)) = a + cnt noL (l.drop a)) := by
        refine ⟨by omega, ⟨hkb.trans (Kb.set _ _ _ _), hrd.set _⟩, ?_⟩
        rw [← hcn, c1, List.drop_drop]; omega
      have hi2 : i < l.length := by omega
      generalize (hb (l.drop i)).toNat = n at *
      clear HI hk hkb hrd hcn c c1 c2 HW
      go_wp2_with fail
      refine hbyte.mono ?_
      rintro e w1 ⟨rfl, rfl⟩
      go_wp2_with fail
      go_roundg (l.length - (i + 1))
      case measure => exact HN.out.1
      case rel => exact ⟨i + 1, by omega, ⟨rfl, HN.out.2⟩⟩
    · have hn : ((hb (l.drop i)).toNat : Int) = 10 := by
        have : hb (l.drop i) = 10 := by simpa [noL] using c
        rw [this]; rfl
      have HX : Hid (Went b l (a + cnt noL (l.drop a)) w wr) := by
        have h0 := cnt_zero (p := noL) (l := l.drop i) (by simpa using c)
        show Went _ _ _ _ _
        rw [← hcn, h0, Nat.add_zero]
        exact ⟨hkb, hrd⟩
      rw [hn] at hbyte
      clear HI hk hkb hrd hcn c HW hn
      go_wp2_with fail
      refine hbyte.mono ?_
      rintro e w1 ⟨rfl, rfl⟩
      go_wp2
      go_end0
      exact ⟨rfl, HX.out⟩

set_option maxHeartbeats 400000 in
theorem digits_any (b a : Nat) (l : List UInt8) (w : World) (h : Rd w b l a) (hl : l.length ≤ 65536) (ha : a ≤ l.length) :
    Calls Tryd.prog 28 #[.pointer (some ⟨b, 0, none⟩)] w fun e w' => e = .returned (.tuple #[]) ∧ Went b l (a + cnt isD (l.drop a)) w w' := by
  have HW : Hid (Went b l a w w) := ⟨Kb.refl _ _, h⟩
  clear h
  go_enter Tryd.func28, Tryd.ntmps28
  go_wp2_with fail
  go_loopg [] (l.length - a) (fun k wr => ∃ i : Nat, i ≤ l.length ∧ Hid (k = l.length - i ∧ Went b l i w wr ∧ i + cnt isD (l.drop i) = a + cnt isD (l.drop a)))
  case atStart => exact ⟨a, ha, ⟨rfl, HW.out, rfl⟩⟩
  case round =>
    obtain ⟨i, hi, HI⟩ := hrel
    obtain ⟨hk, ⟨hkb, hrd⟩, hcn⟩ := HI.out
    have hcell := hrd.c1
    have hfz := hrd.fz 1
    have hbyte := byteAt_any b i i l wr hrd hl (by omega)
    have hdig := isDigit_any (hb (l.drop i)) wr
    by_cases c : isD (hb (l.drop i)) = true
    · obtain ⟨c1, c2⟩ := cnt_pos (p := isD) rfl c
      rw [List.length_drop] at c2
      have HN : Hid (l.length - (i + 1) < gk ∧ Went b l (i + 1) w (wr.setCell ⟨b, 1, none⟩ (.int .i64 ((i + 1 : Nat) : Int))) ∧ (i + 1) + cnt isD (l.drop (i + 1)) = a + cnt isD (l.drop a)) := by
        refine ⟨by omega, ⟨hkb.trans (Kb.set _ _ _ _), hrd.set _⟩, ?_⟩
        rw [← hcn, c1, List.drop_drop]; omega
      have hi2 : i < l.length := by omega
      rw [c] at hdig
      generalize (hb (l.drop i)).toNat = n at *
      clear HI hk hkb hrd hcn c c1 c2 HW
      go_wp2_with fail
      refine hbyte.mono ?_
      rintro e w1 ⟨rfl, rfl⟩
      go_wp2_with fail
      refine hdig.mono ?_
      rintro e w1 ⟨rfl, rfl⟩
      go_wp2_with fail
      go_roundg (l.length - (i + 1))
      case measure => exact HN.out.1
      case rel => exact ⟨i + 1, by omega, ⟨rfl, HN.out.2⟩⟩
    · have HX : Hid (Went b l (a + cnt isD (l.drop a)) w wr) := by
        have h0 := cnt_zero (p := isD) (l := l.drop i) (by simpa using c)
        show Went _ _ _ _ _
        rw [← hcn, h0, Nat.add_zero]
        exact ⟨hkb, hrd⟩
      rw [show isD (hb (l.drop i)) = false by simpa using c] at hdig
      generalize (hb (l.drop i)).toNat = n at *
      clear HI hk hkb hrd hcn c HW
      go_wp2_with fail
      refine hbyte.mono ?_
      rintro e w1 ⟨rfl, rfl⟩
      go_wp2_with fail
      refine hdig.mono ?_
      rintro e w1 ⟨rfl, rfl⟩
      go_wp2
      go_end0
      exact ⟨rfl, HX.out⟩

theorem u8_int {c d : UInt8} : c = d ↔ (c.toNat : Int) = (d.toNat : Int) := ⟨fun h => by rw [h], fun h => UInt8.toNat_inj.1 (by omega)⟩
set_option maxHeartbeats 400000 in
theorem exponent_any (b a : Nat) (l : List UInt8) (w : World) (h : Rd w b l a) (hl : l.length ≤ 65536) (ha : a ≤ l.length) :
    Calls Tryd.prog 29 #[.pointer (some ⟨b, 0, none⟩)] w fun e w' => e = .returned (.int .i64 ((a + xpo (l.drop a) : Nat) : Int)) ∧ w' = w := by
  have hcell := h.c1
  have h1 := byteAt_any b a a l w h hl (by omega)
  have h2 := byteAt_any b a (a + 1) l w h hl (by omega)
  have he : xpo (l.drop a) = if hb (l.drop a) = 101 ∨ hb (l.drop a) = 69 then (if hb (l.drop (a + 1)) = 43 ∨ hb (l.drop (a + 1)) = 45 then 2 else 1) else 0 := by
    unfold xpo; rw [List.drop_drop]
  rw [he]
  simp only [u8_int (d := 101), u8_int (d := 69), u8_int (d := 43), u8_int (d := 45)]
  rw [show ((UInt8.toNat 101 : Nat) : Int) = 101 from rfl, show ((UInt8.toNat 69 : Nat) : Int) = 69 from rfl, show ((UInt8.toNat 43 : Nat) : Int) = 43 from rfl, show ((UInt8.toNat 45 : Nat) : Int) = 45 from rfl]
  generalize (hb (l.drop a)).toNat = n at *
  generalize (hb (l.drop (a + 1))).toNat = m at *
  rw [show ((a + 1 : Nat) : Int) = (a : Int) + 1 by omega] at h2
  clear h he
  have ha2 : a ≤ 65536 := by omega
  by_cases c : (n : Int) = 101 ∨ (n : Int) = 69
  · rw [if_pos c]
    have c' : (n : Int) = 101 ∨ ¬ (n : Int) = 101 ∧ (n : Int) = 69 := by omega
    by_cases d : (m : Int) = 43 ∨ (m : Int) = 45
    · rw [if_pos d]
      have d' : (m : Int) = 43 ∨ ¬ (m : Int) = 43 ∧ (m : Int) = 45 := by omega
      clear c d ha hl
      rcases c' with c1 | ⟨c0, c1⟩ <;> rcases d' with d1 | ⟨d0, d1⟩ <;> rw [c1] at h1 <;> rw [d1] at h2
      all_goals
        clear c1 d1
        go_enter Tryd.func29, Tryd.ntmps29
        go_wp2_with fail
        refine h1.mono ?_
        rintro e w1 ⟨rfl, rfl⟩
        go_wp2_with fail
        refine h2.mono ?_
        rintro e w1 ⟨rfl, rfl⟩
        go_wp2
        go_ret
        exact ⟨by congr 2, rfl⟩
    · rw [if_neg d]
      have d1 : ¬ (m : Int) = 43 := by omega
      have d2 : ¬ (m : Int) = 45 := by omega
      have e1 : ((m : Int) == 43) = false := beq_eq_false_iff_ne.2 d1
      have e2 : ((m : Int) == 45) = false := beq_eq_false_iff_ne.2 d2
      clear c d ha hl
      rcases c' with c1 | ⟨c0, c1⟩ <;> rw [c1] at h1
      all_goals
        clear c1
        go_enter Tryd.func29, Tryd.ntmps29
        go_wp2_with fail
        refine h1.mono ?_
        rintro e w1 ⟨rfl, rfl⟩
        go_wp2_with fail
        refine h2.mono ?_
        rintro e w1 ⟨rfl, rfl⟩
        go_wp2
        go_ret
        exact ⟨by congr 2, rfl⟩
  · rw [if_neg c]
    have c1 : ¬ (n : Int) = 101 := by omega
    have c2 : ¬ (n : Int) = 69 := by omega
    have e1 : ((n : Int) != 101) = true := bne_iff_ne.2 c1
    have e2 : ((n : Int) != 69) = true := bne_iff_ne.2 c2
    clear c ha hl h2
    go_enter Tryd.func29, Tryd.ntmps29
    go_wp2_with fail
    refine h1.mono ?_
    rintro e w1 ⟨rfl, rfl⟩
    go_wp2
    go_ret
    exact ⟨rfl, rfl⟩

end Go.Proofs.YtfhoimfjfbbhaaaDoor

/-
  Layer 10: the landed reader's passOver, walked.
-/
namespace Go.Proofs.YtfhoimfjfbbhaaaDoor
set_option maxRecDepth 100000
open Go.RowKit Txt Lx

set_option maxHeartbeats 1000000 in
theorem passOver_any (b a : Nat) (l : List UInt8) (w : World) (h : Rd w b l a) (hl : l.length ≤ 65536) (ha : a ≤ l.length) :
    Calls Tryd.prog 14 #[.pointer (some ⟨b, 0, none⟩)] w fun e w' => e = .returned (.tuple #[]) ∧ Went b l (a + sk false (l.drop a)) w w' := by
  have HW : Hid (Went b l a w w) := ⟨Kb.refl _ _, h⟩
  have hsz := bs_size l
  clear h
  go_enter Tryd.func14, Tryd.ntmps14
  go_wp2_with fail
  go_loopg [] (l.length - a) (fun k wr => ∃ i : Nat, i ≤ l.length ∧ Hid (k = l.length - i ∧ Went b l i w wr ∧ i + sk false (l.drop i) = a + sk false (l.drop a)))
  case atStart => exact ⟨a, ha, ⟨rfl, HW.out, rfl⟩⟩
  case round =>
    obtain ⟨i, hi, HI⟩ := hrel
    obtain ⟨hk, ⟨hkb, hrd⟩, hcn⟩ := HI.out
    have hc0 := hrd.c0
    have hc1 := hrd.c1
    have hfz := hrd.fz 1
    by_cases c : i < l.length
    · have hg : ∀ h, (bs l)[i]'h = hb (l.drop i) := by
        intro h
        rw [bs_get, List.drop_eq_getElem_cons c]; rfl
      have hsl : (bs l).extract i l.length = bs (l.drop i) := by
        rw [bs_extract, List.take_of_length_le (by simp)]
      have hbl := fun w => isBlank_any (hb (l.drop i)) w
      have hln : (l.drop i).length = l.length - i := List.length_drop ..
      have hpre := fun w => pref_gen (l.drop i) [45, 45] w (by omega) (by simp)
      rw [← hsl, show bs [45, 45] = ⟨#[45, 45]⟩ from rfl] at hpre
      by_cases c1 : isB (hb (l.drop i)) = true
      · have e1 := sk_blank (l := l.drop i) (by omega) c1
        have HN : Hid (∀ wr', Below wr.heap.size wr wr' → l.length - (i + 1) < gk ∧ Went b l (i + 1) w (wr'.setCell ⟨b, 1, none⟩ (.int .i64 ((i + 1 : Nat) : Int))) ∧ (i + 1) + sk false (l.drop (i + 1)) = a + sk false (l.drop a)) := by
          intro wr' hb'
          refine ⟨by omega, ⟨(hkb.trans (Kb.of_below hb')).trans (Kb.set _ _ _ _), (hrd.below hb').set _⟩, ?_⟩
          rw [← hcn, e1, List.drop_drop]; omega
        rw [c1] at hbl
        clear HI hk hkb hrd hcn e1 HW hsl hln hpre
        generalize bs l = s at *
        generalize hb (l.drop i) = cc at *
        go_wp2_with fail
        go_region
        go_wp2_with fail
        go_quiet ((go_at_call 17; exact (hbl _).mono fun _ _ h => ⟨h.1, _, h.2⟩))
        go_wp2_with fail
        go_roundg (l.length - (i + 1))
        case measure => exact (HN.out _ (Below.refl _ _)).1
        case rel => exact ⟨i + 1, by omega, ⟨rfl, (HN.out _ (below_dr _ _ _)).2⟩⟩
      · rw [show isB (hb (l.drop i)) = false by simpa using c1] at hbl
        by_cases c2 : dd (l.drop i) = true
        · have e1 := sk_comment (l := l.drop i) (by simpa using c1) c2
          have hc := cnt_le noL (l.drop i)
          have hpos : 0 < cnt noL (l.drop i) := by
            obtain ⟨r, hr⟩ := (dd_iff _).1 c2
            rw [hr]; unfold cnt; rw [List.takeWhile_cons_of_pos (by rfl)]; simp
          have HN : Hid (∀ wr' wr'', Below wr.heap.size wr wr' → Went b l (i + cnt noL (l.drop i)) wr' wr'' → l.length - (i + cnt noL (l.drop i)) < gk ∧ Went b l (i + cnt noL (l.drop i)) w wr'' ∧ (i + cnt noL (l.drop i)) + sk false (l.drop (i + cnt noL (l.drop i))) = a + sk false (l.drop a)) := by
            intro wr' wr'' hb' hw'
            refine ⟨by omega, ⟨(hkb.trans (Kb.of_below hb')).trans hw'.1, hw'.2⟩, ?_⟩
            rw [← hcn, e1, List.drop_drop]; omega
          have hpl : ∀ wr', Below wr.heap.size wr wr' → _ := fun wr' hb' => passLine_any b i l wr' (hrd.below hb') hl hi
          have hle : i + cnt noL (l.drop i) ≤ l.length := by omega
          have e2 : List.isPrefixOf [45, 45] (l.drop i) = true := c2
          rw [e2] at hpre
          clear HI hk hkb hrd hcn e1 HW hsl hln c1 c2 e2
          generalize bs l = s at *
          generalize hb (l.drop i) = cc at *
          go_wp2_with fail
          go_region
          go_wp2_with fail
          go_quiet ((go_at_call 17; exact (hbl _).mono fun _ _ h => ⟨h.1, _, h.2⟩))
          go_wp2_with fail
          go_quiet ((go_at_call 18; exact (hpre _).mono fun _ _ h => ⟨h.1, _, h.2⟩))
          go_wp2_with fail
          refine (hpl _ (below_dr _ _ _)).mono ?_
          rintro e w1 ⟨rfl, hw⟩
          have HQ : Hid _ := HN.out _ _ (below_dr _ _ _) hw
          clear hw hpl
          go_wp2_with fail
          go_roundg (l.length - (i + cnt noL (l.drop i)))
          case measure => exact HQ.out.1
          case rel => exact ⟨_, hle, ⟨rfl, HQ.out.2⟩⟩
        · have e1 := sk_word (l := l.drop i) (by omega) (by simpa using c1) (by simpa using c2)
          have HN : Hid (∀ wr', Below wr.heap.size wr wr' → Went b l (a + sk false (l.drop a)) w wr') := by
            intro wr' hb'
            rw [← hcn, e1, Nat.add_zero]
            exact ⟨hkb.trans (Kb.of_below hb'), hrd.below hb'⟩
          have e2 : List.isPrefixOf [45, 45] (l.drop i) = false := (Bool.not_eq_true _).mp c2
          rw [e2] at hpre
          clear HI hk hkb hrd hcn e1 HW hsl hln c1 c2 e2
          generalize bs l = s at *
          generalize hb (l.drop i) = cc at *
          go_wp2_with fail
          go_region
          go_wp2_with fail
          go_quiet ((go_at_call 17; exact (hbl _).mono fun _ _ h => ⟨h.1, _, h.2⟩))
          go_wp2_with fail
          go_quiet ((go_at_call 18; exact (hpre _).mono fun _ _ h => ⟨h.1, _, h.2⟩))
          go_wp2
          try simp only [Exit.inBlock, Exit.then]
          refine bodyPost_ret (results_none rfl _ _ _) rfl ?_
          refine ⟨rfl, HN.out _ ?_⟩
          exact ⟨rfl, rfl, rfl, Nat.le_refl _, fun _ _ => rfl⟩
    · have e1 : sk false (l.drop i) = 0 := by rw [List.drop_eq_nil_of_le (by omega)]; rfl
      have HN : Hid (∀ wr', Below wr.heap.size wr wr' → Went b l (a + sk false (l.drop a)) w wr') := by
        intro wr' hb'
        rw [← hcn, e1, Nat.add_zero]
        exact ⟨hkb.trans (Kb.of_below hb'), hrd.below hb'⟩
      clear HI hk hkb hrd hcn e1 HW
      generalize bs l = s at *
      go_wp2_with fail
      go_region
      go_wp2
      go_end0
      refine ⟨rfl, HN.out _ ?_⟩
      exact ⟨rfl, rfl, rfl, Nat.le_refl _, fun _ _ => rfl⟩

end Go.Proofs.YtfhoimfjfbbhaaaDoor
