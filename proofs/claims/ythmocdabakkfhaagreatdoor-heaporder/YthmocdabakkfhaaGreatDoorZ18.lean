/-
  HpSize, HpAdd, HpAdd2, HpDrop, HpDrop2
-/
import Derived.Laws.BitsAllLaws
import Derived.Deep.DeepCutAuto
import Derived.LaidEqlPtr
import Derived.Lib.Builder
import Derived.Test.YthmocdabakkfhaaGreatDoorZ17

/-
  Plain mathematics of layer 9: what the counted bits and the size say of the keys that came and went.
-/
namespace Go.Proofs.YthmocdabakkfhaaGreatDoor
set_option maxRecDepth 100000
open Go.RowKit

/-- The bit p of the words W. -/
def bt (W : Nat → Nat) (p : Nat) : Bool := (W (p / 64)).testBit (p % 64)

theorem ctz_bits {x : Nat} (h0 : x ≠ 0) (h : x < 2 ^ 64) : x.testBit (Lib.ctz 64 x) = true ∧ (∀ j, j < Lib.ctz 64 x → x.testBit j = false) ∧ Lib.ctz 64 x < 64 := by
  obtain ⟨m, hm, hl⟩ := Lib.ctzFrom_spec 64 x (by omega) h
  have e : Lib.ctz 64 x = Lib.ctzFrom 64 x := by unfold Lib.ctz; rw [if_neg h0]
  rw [e]
  generalize Lib.ctzFrom 64 x = k at *
  subst hm
  refine ⟨?_, fun j hj => ?_, hl⟩
  · rw [Nat.testBit_two_pow_mul]; simp
  · rw [Nat.testBit_two_pow_mul]; simp; omega
theorem not_bits {x : Nat} (h : x < 18446744073709551616) (j : Nat) (hj : j < 64) : (18446744073709551615 - x).testBit j = !x.testBit j := by
  have := Nat.testBit_two_pow_sub_succ (n := 64) (x := x) (by omega) j
  rw [show 2 ^ 64 - (x + 1) = 18446744073709551615 - x by omega] at this
  rw [this]; simp [hj]
theorem all_bits (j : Nat) (hj : j < 64) : (18446744073709551615 : Nat).testBit j = true := by
  have := Nat.testBit_two_pow_sub_one 64 j
  rw [show 2 ^ 64 - 1 = 18446744073709551615 from rfl] at this
  rw [this]; simp [hj]

theorem gapF_all (W : Nat → Nat) : ∀ f p q, p ≤ q → q < gapF W f p → W q = 18446744073709551615 := by
  intro f
  induction f with
  | zero => intro p q h1 h2; rw [gapF] at h2; omega
  | succ f ih =>
    intro p q h1 h2
    rw [gapF] at h2
    split at h2
    · next c =>
      by_cases e : q = p
      · rw [e]; exact c
      · exact ih (p + 1) q (by omega) h2
    · omega
theorem gapF_ge (W : Nat → Nat) : ∀ f p, p ≤ gapF W f p := by
  intro f
  induction f with
  | zero => intro p; exact Nat.le_refl _
  | succ f ih =>
    intro p
    rw [gapF]
    split
    · have := ih (p + 1); omega
    · exact Nat.le_refl _
/-- What the search for the first bit that is not set finds. -/
theorem gapN_spec (W : Nat → Nat) {m s : Nat} (hs : s ≤ m * 64) (hW : ∀ i, i < m → W i < 18446744073709551616) :
    gapN W m s ≤ m * 64 ∧ (∀ p, s / 64 * 64 ≤ p → p < gapN W m s → bt W p = true) ∧ (gapN W m s < m * 64 → bt W (gapN W m s) = false) := by
  obtain ⟨a, b⟩ := gapF_le W (m - s / 64) (s / 64)
  have hall := gapF_all W (m - s / 64) (s / 64)
  have hge := gapF_ge W (m - s / 64) (s / 64)
  have e : s / 64 + (m - s / 64) = m := by omega
  rw [e] at a b
  refine ⟨gapN_le W hs hW, ?_⟩
  by_cases c : gapF W (m - s / 64) (s / 64) = m
  · rw [gapN_end c]
    refine ⟨fun p h1 h2 => ?_, fun h => by omega⟩
    unfold bt
    rw [hall (p / 64) (by omega) (by omega)]
    exact all_bits _ (Nat.mod_lt _ (by decide))
  · rw [gapN_at rfl c]
    generalize gapF W (m - s / 64) (s / 64) = q at *
    have hq : q < m := by omega
    have hw := hW q hq
    have hne := b hq
    obtain ⟨c1, c2, c3⟩ := ctz_bits (x := 18446744073709551615 - W q) (by omega) (by omega)
    generalize Lib.ctz 64 (18446744073709551615 - W q) = z at *
    refine ⟨fun p h1 h2 => ?_, fun _ => ?_⟩
    · unfold bt
      by_cases hp : p / 64 = q
      · rw [hp]
        have := c2 (p % 64) (by omega)
        rw [not_bits hw _ (Nat.mod_lt _ (by decide))] at this
        simpa using this
      · rw [hall (p / 64) (by omega) (by omega)]
        exact all_bits _ (Nat.mod_lt _ (by decide))
    · unfold bt
      rw [show (q * 64 + z) / 64 = q by omega, show (q * 64 + z) % 64 = z by omega]
      rw [not_bits hw _ c3] at c1
      simpa using c1

/-- The words and the size say which of the first m * 64 places hold P. -/
structure Sz (m : Nat) (W : Nat → Nat) (s : Nat) (P : Nat → Prop) : Prop where
  small : ∀ i, i < m → W i < 18446744073709551616
  bits : ∀ p, p < m * 64 → (bt W p = true ↔ P p)
  fit : s ≤ m * 64
  all : ∀ p, p < s → P p
  gap : s < m * 64 → ¬ P s
theorem Sz.same {m : Nat} {W : Nat → Nat} {s : Nat} {P P' : Nat → Prop} (h : Sz m W s P) (hp : ∀ p, p < m * 64 → (P p ↔ P' p)) : Sz m W s P' :=
  ⟨h.small, fun p hm => (h.bits p hm).trans (hp p hm), h.fit, fun p hm => (hp p (Nat.lt_of_lt_of_le hm h.fit)).1 (h.all p hm), fun hs hP => h.gap hs ((hp s hs).2 hP)⟩
theorem Sz.empty (m : Nat) : Sz m (fun _ => 0) 0 (fun _ => False) :=
  ⟨fun _ _ => by decide, fun p _ => by simp [bt], Nat.zero_le _, fun p hp => by omega, fun _ h => h⟩
theorem bitN_in {m : Nat} {K N : Int} (h : bitB m K N = true) : bitN m K N < m * 64 := by
  unfold bitN
  rw [if_pos h]
  unfold bitB at h
  simp at h
  omega
theorem bt_set (W : Nat → Nat) (b : Nat) (p : Nat) : bt (setW W (b / 64) (W (b / 64) ||| 2 ^ (b % 64))) p = (bt W p || decide (p = b)) := by
  unfold bt setW
  by_cases h : p / 64 = b / 64
  · rw [if_pos h, Nat.testBit_or, Nat.testBit_two_pow, h]
    congr 1
    rw [decide_eq_decide]
    omega
  · rw [if_neg h, decide_eq_false (by omega), Bool.or_false]
theorem Sz.count {m : Nat} {W : Nat → Nat} {s : Nat} {P : Nat → Prop} (h : Sz m W s P) (K N : Int) :
    Sz m (cntW m W K N) (cntS m W s K N) (fun p => P p ∨ (bitB m K N = true ∧ p = bitN m K N)) := by
  cases hb : bitB m K N with
  | false =>
    have e1 : cntW m W K N = W := by unfold cntW; rw [hb]; rfl
    have e2 : cntS m W s K N = s := by unfold cntS; rw [hb]; rfl
    rw [e1, e2]
    exact h.same fun p _ => by simp
  | true =>
    have hlt := bitN_in hb
    have e1 : cntW m W K N = setW W (bitN m K N / 64) (W (bitN m K N / 64) ||| 2 ^ (bitN m K N % 64)) := by unfold cntW; rw [hb]; rfl
    have hsm : ∀ i, i < m → cntW m W K N i < 18446744073709551616 := by
      intro i hi
      rw [e1]
      unfold setW
      split
      · exact (or_bit _ _ (h.small _ (by omega)) (Nat.mod_lt _ (by decide))).2
      · exact h.small i hi
    have hbt : ∀ p, p < m * 64 → (bt (cntW m W K N) p = true ↔ (P p ∨ p = bitN m K N)) := by
      intro p hp
      rw [e1, bt_set, Bool.or_eq_true, decide_eq_true_eq, h.bits p hp]
    have e2 : cntS m W s K N = if bitN m K N = s then gapN (cntW m W K N) m s else s := by unfold cntS; rw [hb]; rfl
    rw [e2]
    by_cases c : bitN m K N = s
    · rw [if_pos c]
      obtain ⟨g1, g2, g3⟩ := gapN_spec (cntW m W K N) h.fit hsm
      refine ⟨hsm, fun p hp => by simpa using hbt p hp, g1, fun p hp => ?_, fun hg hP => ?_⟩
      · by_cases cp : p < s
        · exact Or.inl (h.all p cp)
        · have := (hbt p (by omega)).1 (g2 p (by omega) hp)
          simpa using this
      · have : P (gapN (cntW m W K N) m s) ∨ gapN (cntW m W K N) m s = bitN m K N := by simpa using hP
        have := (hbt _ hg).2 this
        rw [g3 hg] at this
        cases this
    · rw [if_neg c]
      refine ⟨hsm, fun p hp => by simpa using hbt p hp, h.fit, fun p hp => Or.inl (h.all p hp), fun hg hP => ?_⟩
      rcases hP with hP | ⟨_, hP⟩
      · exact h.gap hg hP
      · exact c hP.symm
/-- Which places the keys of these entries take. -/
def hasP (m : Nat) (es : List En) (p : Nat) : Prop := ∃ e ∈ es, bitB m e.K e.N = true ∧ p = bitN m e.K e.N
theorem cntF_sz (m : Nat) (es : List En) : Sz m (cntF m es).1 (cntF m es).2 (hasP m es) := by
  suffices H : ∀ (l : List En), Sz m (cntF m l.reverse).1 (cntF m l.reverse).2 (hasP m l.reverse) by
    have := H es.reverse
    rwa [List.reverse_reverse] at this
  intro l
  induction l with
  | nil => exact (Sz.empty m).same fun p _ => by simp [hasP]
  | cons e r ih =>
    rw [List.reverse_cons, cntF_snoc]
    refine (ih.count e.K e.N).same fun p _ => ?_
    unfold hasP
    simp only [List.mem_append, List.mem_singleton]
    constructor
    · rintro (⟨f, h1, h2⟩ | h)
      · exact ⟨f, Or.inl h1, h2⟩
      · exact ⟨e, Or.inr rfl, h⟩
    · rintro ⟨f, h1 | h1, h2⟩
      · exact Or.inl ⟨f, h1, h2⟩
      · subst h1; exact Or.inr h2

theorem clrW_eq (x r : Nat) (hx : x < 18446744073709551616) (hr : r < 64) : clrW x r = x &&& (18446744073709551615 - 2 ^ r) := by
  have h2 : 2 ^ r < 18446744073709551616 := by
    have := Nat.pow_lt_pow_right (a := 2) (by decide) hr
    omega
  have e : IntKind.u64.wrap (2 ^ r) = ((2 ^ r : Nat) : Int) := by
    rw [IntKind.wrap_u64]
    have : ((2 : Int) ^ r) = ((2 ^ r : Nat) : Int) := by simp
    rw [this]
    exact Int.emod_eq_of_lt (Int.natCast_nonneg _) (Int.ofNat_lt.2 h2)
  unfold clrW
  rw [e, u64_andNot_nat x (2 ^ r) hx h2]
  rfl
theorem bt_clr (W : Nat → Nat) (b : Nat) (hW : W (b / 64) < 18446744073709551616) (p : Nat) : bt (setW W (b / 64) (clrW (W (b / 64)) (b % 64))) p = (bt W p && !decide (p = b)) := by
  have hr : b % 64 < 64 := Nat.mod_lt _ (by decide)
  have h2 : 2 ^ (b % 64) < 18446744073709551616 := by
    have := Nat.pow_lt_pow_right (a := 2) (by decide) hr
    omega
  unfold bt setW
  by_cases h : p / 64 = b / 64
  · rw [if_pos h, clrW_eq _ _ hW hr, Nat.testBit_and, not_bits h2 _ (Nat.mod_lt _ (by decide)), Nat.testBit_two_pow, h]
    congr 2
    rw [decide_eq_decide]
    omega
  · rw [if_neg h, decide_eq_false (by omega)]; simp
theorem Sz.discount {m : Nat} {W : Nat → Nat} {s : Nat} {P : Nat → Prop} (h : Sz m W s P) (K N : Int) :
    Sz m (disW m W K N) (disS m s K N) (fun p => P p ∧ ¬ (bitB m K N = true ∧ p = bitN m K N)) := by
  cases hb : bitB m K N with
  | false =>
    have e1 : disW m W K N = W := by unfold disW; rw [hb]; rfl
    have e2 : disS m s K N = s := by unfold disS; rw [hb]; rfl
    rw [e1, e2]
    exact h.same fun p _ => by simp
  | true =>
    have hlt := bitN_in hb
    have e1 : disW m W K N = setW W (bitN m K N / 64) (clrW (W (bitN m K N / 64)) (bitN m K N % 64)) := by unfold disW; rw [hb]; rfl
    have e2 : disS m s K N = min s (bitN m K N) := by unfold disS; rw [hb]; rfl
    have hwi := h.small (bitN m K N / 64) (by omega)
    rw [e1, e2]
    refine ⟨fun i hi => ?_, fun p hp => ?_, by have := h.fit; omega, fun p hp => ⟨h.all p (by omega), fun k => by have := k.2; omega⟩, fun hg hP => ?_⟩
    · unfold setW
      split
      · exact (clr_bit _ _).2
      · exact h.small i hi
    · rw [bt_clr W _ hwi, Bool.and_eq_true, h.bits p hp]
      simp
    · by_cases c : s ≤ bitN m K N
      · rw [Nat.min_eq_left c] at hP hg
        exact h.gap hg hP.1
      · rw [Nat.min_eq_right (by omega)] at hP
        exact hP.2 ⟨rfl, rfl⟩

end Go.Proofs.YthmocdabakkfhaaGreatDoor

/-
  Layer 9: a key that is not there laid behind all others: add.
-/
namespace Go.Proofs.YthmocdabakkfhaaGreatDoor
set_option maxRecDepth 100000
open Go.RowKit

theorem Or.wr {A : List (Nat × Nat)} {w w' : World} {tb : Nat} {es : List En} (h : Or w tb es) (k : Wr A w w') (h4 : (tb, 4) ∉ A) (h5 : (tb, 5) ∉ A) (h6 : (tb, 6) ∉ A) (he : ∀ e ∈ es, (e.b, 10) ∉ A ∧ (e.b, 11) ∉ A) : Or w' tb es :=
  ⟨k.cell h4 h.keys, k.cell h5 h.first, k.cell h6 h.last, h.behind.off k.off (fun e hm => (he e hm).2), h.ahead.off k.off (fun e hm => (he e (List.mem_reverse.1 hm)).1), h.once, h.apart⟩

/-- A table with room, and an entry that is to come. -/
structure Rdy (w : World) (tb g n c m : Nat) (cs : Nat → List En) (W : Nat → Nat) (s : Nat) (es : List En) (e : En) : Prop where
  ko : Or w tb es
  kb : Bk w g n cs es
  kc : Ct w tb c m W s
  row : w.cell? ⟨tb, 7, none⟩ = some (.slice (some ⟨g, 0, none⟩) n n)
  few : es.length < 1099511627776
  tfree : ∀ o, w.frozen? ⟨tb, o, none⟩ = false
  efree : ∀ f ∈ es, w.frozen? ⟨f.b, 11, none⟩ = false
  lies : EnC w e ∧ e.b < w.heap.size
  hash : e.H = hN e.K e.N e.S e.O
  u64 : Flo.U64 e.N
  c9 : w.cell? ⟨e.b, 9, none⟩ = some (.pointer none)
  c10 : w.cell? ⟨e.b, 10, none⟩ = some (.pointer none)
  c11 : w.cell? ⟨e.b, 11, none⟩ = some (.pointer none)
  free : ∀ o, w.frozen? ⟨e.b, o, none⟩ = false
  zg : ∀ j, w.frozen? ⟨g, j, none⟩ = false
  db : Db w
  ntb : e.b ≠ tb
  ng : e.b ≠ g
  nc : e.b ≠ c
  n1 : e.b ≠ 1
  gt : g ≠ tb
  gc : g ≠ c
  g1 : g ≠ 1
  t1 : tb ≠ 1
  new : ∀ f ∈ es, ¬ (e.K = f.K ∧ e.N = f.N ∧ e.S = f.S ∧ e.O = f.O)
  blk : ∀ f ∈ es, f.b ≠ e.b
  ec : ∀ f ∈ es, f.b ≠ c
  e1 : ∀ f ∈ es, f.b ≠ 1

/-- The row of a table's buckets. -/
def Rw (w : World) (tb g n : Nat) : Prop := w.cell? ⟨tb, 7, none⟩ = some (.slice (some ⟨g, 0, none⟩) n n) ∧ ∀ j, w.frozen? ⟨g, j, none⟩ = false

/-- The world ahead of the laying. -/
theorem Rdy.put {w w2 : World} {tb g n c m : Nat} {cs : Nat → List En} {W : Nat → Nat} {s : Nat} {es : List En} {e : En} (h : Rdy w tb g n c m cs W s es e) (hw : Wr (addA tb es e) w w2)
    (c4 : w2.cell? ⟨tb, 4, none⟩ = some (.int .i64 ((es.length + 1 : Nat) : Int))) (c6 : w2.cell? ⟨tb, 6, none⟩ = some (.pointer (some ⟨e.b, 0, none⟩))) (c10 : w2.cell? ⟨e.b, 10, none⟩ = some (hd es.reverse))
    (cl : match es.getLast? with
      | none => w2.cell? ⟨tb, 5, none⟩ = some (.pointer (some ⟨e.b, 0, none⟩))
      | some z => w2.cell? ⟨z.b, 11, none⟩ = some (.pointer (some ⟨e.b, 0, none⟩))) :
    Calls Tryz.prog 79 #[.pointer (some ⟨tb, 0, none⟩), .pointer (some ⟨e.b, 0, none⟩)] w2 fun x w' => x = .returned (.tuple #[]) ∧
      Wr [(e.b, 9), (g, bk e.H n), (c, bitN m e.K e.N / 64), (tb, 9)] w2 w' ∧ Or w' tb (es ++ [e]) ∧ Bk w' g n (laidC cs (bk e.H n) e) (es ++ [e]) ∧ Ct w' tb c m (cntW m W e.K e.N) (cntS m W s e.K e.N) ∧ Rw w' tb g n := by
  have hA : ∀ k o, (k, o) ∈ addA tb es e → (k = tb ∧ (o = 4 ∨ o = 5 ∨ o = 6)) ∨ (k = e.b ∧ o = 10) ∨ (o = 11 ∧ ∃ z ∈ es, k = z.b) := by
    intro k o hm
    unfold addA at hm
    rcases List.mem_cons.1 hm with c | c
    · cases hz : es.getLast? with
      | none => rw [hz] at c; injection c with c1 c2; exact Or.inl ⟨c1, by omega⟩
      | some z => rw [hz] at c; injection c with c1 c2; exact Or.inr (Or.inr ⟨c2, z, List.mem_of_getLast? hz, c1⟩)
    · simp only [List.mem_cons, Prod.mk.injEq, List.not_mem_nil, or_false] at c
      rcases c with ⟨c1, c2⟩ | ⟨c1, c2⟩ | ⟨c1, c2⟩
      · exact Or.inr (Or.inl ⟨c1, c2⟩)
      · exact Or.inl ⟨c1, by omega⟩
      · exact Or.inl ⟨c1, by omega⟩
  have hor := h.ko.add h.blk h.ntb hw.off c4 c6 c10 h.c11 cl
  have hen : ∀ f ∈ es, ∀ o, o ≤ 9 → (f.b, o) ∉ addA tb es e := fun f hf o ho hm => by
    rcases hA _ _ hm with ⟨k, _⟩ | ⟨k, _⟩ | ⟨k, _⟩
    · exact h.ko.apart f hf k
    · exact h.blk f hf k
    · omega
  have heo : ∀ o, o ≤ 9 → (e.b, o) ∉ addA tb es e := fun o ho hm => by
    rcases hA _ _ hm with ⟨k, _⟩ | ⟨_, k⟩ | ⟨k, _⟩
    · exact h.ntb k
    · omega
    · omega
  have hgo : ∀ j, (g, j) ∉ addA tb es e := fun j hm => by
    rcases hA _ _ hm with ⟨k, _⟩ | ⟨k, _⟩ | ⟨_, z, hz, k⟩
    · exact h.gt k
    · exact h.ng k.symm
    · exact h.kb.apart z hz k.symm
  have hco : ∀ j, (c, j) ∉ addA tb es e := fun j hm => by
    rcases hA _ _ hm with ⟨k, _⟩ | ⟨k, _⟩ | ⟨_, z, hz, k⟩
    · exact h.kc.ne k.symm
    · exact h.nc k.symm
    · exact h.ec z hz k.symm
  have hto : ∀ o, 7 ≤ o → (tb, o) ∉ addA tb es e := fun o ho hm => by
    rcases hA _ _ hm with ⟨_, k⟩ | ⟨k, _⟩ | ⟨_, z, hz, k⟩
    · omega
    · exact h.ntb k.symm
    · exact h.ko.apart z hz k.symm
  have hdb : Db w2 := fun j hj => hw.cell (fun hm => by
    rcases hA _ _ hm with ⟨k, _⟩ | ⟨k, _⟩ | ⟨_, z, hz, k⟩
    · exact h.t1 k.symm
    · exact h.n1 k.symm
    · exact h.e1 z hz k.symm) (h.db j hj)
  have hlay := lay_any tb g n c m s W cs es (es ++ [e]) e none w2 (h.kc.wr hw (hto 8 (by omega)) (hto 9 (by omega)) hco) (h.kb.wr hw hgo hen) hdb (hw.cell (hto 7 (by omega)) h.row)
    ⟨h.lies.1.off hw.off (fun o ho => heo o (by omega)), Nat.lt_of_lt_of_le h.lies.2 hw.size⟩ h.hash h.u64 (hw.cell (heo 9 (by omega)) h.c9) ((hw.2.1 e.b 9 h.lies.2).trans (h.free 9)) (fun j => (hw.2.1 g j h.kb.lt).trans (h.zg j)) h.ntb h.ng h.nc h.gt h.gc h.n1 h.g1
    (fun x => by rw [List.mem_append, List.mem_singleton]; exact or_comm) h.new h.blk (fun f hf => ⟨h.ko.apart f hf, h.ec f hf⟩)
  have hrow : ∀ w', Wr [(e.b, 9), (g, bk e.H n), (c, bitN m e.K e.N / 64), (tb, 9)] w2 w' → Rw w' tb g n := fun w' h2 => by
    refine ⟨h2.cell ?_ (hw.cell (hto 7 (by omega)) h.row), fun j => (h2.2.1 g j (Nat.lt_of_lt_of_le h.kb.lt hw.size)).trans ((hw.2.1 g j h.kb.lt).trans (h.zg j))⟩
    simp only [List.mem_cons, Prod.mk.injEq, List.not_mem_nil, or_false]
    rintro (⟨k, _⟩ | ⟨k, _⟩ | ⟨k, _⟩ | ⟨_, k⟩)
    · exact h.ntb k.symm
    · exact h.gt k.symm
    · exact h.kc.ne k
    · omega
  refine hlay.mono fun x w' ⟨h1, h2, h3, h4⟩ => ⟨h1, h2, ?_, h3, h4, hrow w' h2⟩
  refine hor.wr h2 ?_ ?_ ?_ ?_
  all_goals simp only [List.mem_cons, Prod.mk.injEq, List.not_mem_nil, or_false]
  · rintro (⟨k, _⟩ | ⟨k, _⟩ | ⟨k, _⟩ | ⟨_, k⟩)
    · exact h.ntb k.symm
    · exact h.gt k.symm
    · exact h.kc.ne k
    · omega
  · rintro (⟨k, _⟩ | ⟨k, _⟩ | ⟨k, _⟩ | ⟨_, k⟩)
    · exact h.ntb k.symm
    · exact h.gt k.symm
    · exact h.kc.ne k
    · omega
  · rintro (⟨k, _⟩ | ⟨k, _⟩ | ⟨k, _⟩ | ⟨_, k⟩)
    · exact h.ntb k.symm
    · exact h.gt k.symm
    · exact h.kc.ne k
    · omega
  · intro f hf
    rw [List.mem_append, List.mem_singleton] at hf
    constructor
    · rintro (⟨_, k⟩ | ⟨k, _⟩ | ⟨k, _⟩ | ⟨k, _⟩)
      · omega
      · rcases hf with hf | hf
        · exact h.kb.apart f hf k
        · subst hf; exact h.ng k
      · rcases hf with hf | hf
        · exact h.ec f hf k
        · subst hf; exact h.nc k
      · rcases hf with hf | hf
        · exact h.ko.apart f hf k
        · subst hf; exact h.ntb k
    · rintro (⟨_, k⟩ | ⟨k, _⟩ | ⟨k, _⟩ | ⟨k, _⟩)
      · omega
      · rcases hf with hf | hf
        · exact h.kb.apart f hf k
        · subst hf; exact h.ng k
      · rcases hf with hf | hf
        · exact h.ec f hf k
        · subst hf; exact h.nc k
      · rcases hf with hf | hf
        · exact h.ko.apart f hf k
        · subst hf; exact h.ntb k

theorem lkSome {w : World} {o : Nat} : ∀ {l : List En}, Lk w o l → ∀ z ∈ l, ∃ u, w.cell? ⟨z.b, o, none⟩ = some (.pointer u)
  | e :: l, h, z, hz => by
    rcases List.mem_cons.1 hz with c | c
    · subst c
      obtain ⟨u, hu⟩ : ∃ u, hd l = .pointer u := by cases l <;> exact ⟨_, rfl⟩
      exact ⟨u, by rw [h.1, hu]⟩
    · exact lkSome h.2 z c

set_option maxHeartbeats 1000000 in
theorem add_room (tb g n c m : Nat) (cs : Nat → List En) (W : Nat → Nat) (s : Nat) (es : List En) (e : En) (w : World) (h : Rdy w tb g n c m cs W s es e) (hne : es.length ≠ n) :
    Calls Tryz.prog 68 #[.pointer (some ⟨tb, 0, none⟩), .pointer (some ⟨e.b, 0, none⟩)] w fun x w' => x = .returned (.tuple #[]) ∧
      ∃ w2, Wr (addA tb es e) w w2 ∧ Wr [(e.b, 9), (g, bk e.H n), (c, bitN m e.K e.N / 64), (tb, 9)] w2 w' ∧ Or w' tb (es ++ [e]) ∧ Bk w' g n (laidC cs (bk e.H n) e) (es ++ [e]) ∧ Ct w' tb c m (cntW m W e.K e.N) (cntS m W s e.K e.N) ∧ Rw w' tb g n := by
  have k4 := h.ko.keys
  have k5 := h.ko.first
  have k6 := h.ko.last
  have k7 := h.row
  have k10 := h.c10
  have z4 := h.tfree 4
  have z5 := h.tfree 5
  have z6 := h.tfree 6
  have z10 := h.free 10
  have hnt := h.ntb
  have hcmp : ((es.length : Int) == (n : Int)) = false := by rw [beq_eq_false_iff_ne]; omega
  have hfew := h.few
  obtain ⟨u5, hu5⟩ : ∃ u, hd es = .pointer u := by cases es <;> exact ⟨_, rfl⟩
  rw [hu5] at k5
  obtain ⟨eb, heb⟩ : ∃ eb, e.b = eb := ⟨_, rfl⟩
  have HEB : Hid (e.b = eb) := heb
  rcases hes : es.getLast? with _ | z
  · have e0 : es = [] := by
      cases es with
      | nil => rfl
      | cons a l => simp at hes
    subst e0
    have HF : Hid (∀ w2, Wr (addA tb [] e) w w2 → w2.cell? ⟨tb, 4, none⟩ = some (.int .i64 1) → w2.cell? ⟨tb, 6, none⟩ = some (.pointer (some ⟨eb, 0, none⟩)) → w2.cell? ⟨eb, 10, none⟩ = some (.pointer none) → w2.cell? ⟨tb, 5, none⟩ = some (.pointer (some ⟨eb, 0, none⟩)) →
        Calls Tryz.prog 79 #[.pointer (some ⟨tb, 0, none⟩), .pointer (some ⟨eb, 0, none⟩)] w2 fun x w' => x = .returned (.tuple #[]) ∧
          ∃ w2, Wr (addA tb [] e) w w2 ∧ Wr [(e.b, 9), (g, bk e.H n), (c, bitN m e.K e.N / 64), (tb, 9)] w2 w' ∧ Or w' tb ([] ++ [e]) ∧ Bk w' g n (laidC cs (bk e.H n) e) ([] ++ [e]) ∧ Ct w' tb c m (cntW m W e.K e.N) (cntS m W s e.K e.N) ∧ Rw w' tb g n) :=
      fun w2 a0 a1 a2 a3 a4 => by
        subst heb
        exact (h.put a0 a1 a2 a3 a4).mono fun x w' ⟨b1, b2⟩ => ⟨b1, w2, a0, b2⟩
    have HA : Hid (∀ a, a ∈ [(eb, 10), (tb, 5), (tb, 6), (tb, 4)] → a ∈ addA tb [] e) := fun a ha => by
      unfold addA
      rw [heb]
      simp only [List.mem_cons, List.not_mem_nil, or_false, List.getLast?_nil] at ha ⊢
      rcases ha with h | h | h | h <;> subst h <;> simp
    rw [heb] at k10 z10 hnt ⊢
    clear h hu5 heb
    rw [show hd ([] : List En).reverse = .pointer none from rfl] at k6
    have hcmp0 : ((0 : Int) == (n : Int)) = false := hcmp
    have k40 : w.cell? ⟨tb, 4, none⟩ = some (.int .i64 0) := k4
    clear hcmp k4
    go_enter Tryz.func68, Tryz.ntmps68
    go_wp2_with fail
    go_region
    go_wp2_with fail
    refine (HF.out _ ?_ ?_ ?_ ?_ ?_).mono ?_
    · exact (((((Wr.set w eb 10 _).trans (Wr.set _ tb 5 _)).trans (Wr.set _ tb 6 _)).trans (Wr.set _ tb 4 _)).trans (Wr.drew _)).more (fun a ha => HA.out a (by simpa using ha))
    · go_simp
    · go_simp
    · go_simp
    · go_simp
    · rintro x w' ⟨rfl, q⟩
      have HQ : Hid _ := q
      clear q
      go_wp2
      go_end0
      exact ⟨rfl, by rw [← HEB.out]; exact HQ.out⟩
  · have hz : z ∈ es := List.mem_of_getLast? hes
    have hrv : hd es.reverse = .pointer (some ⟨z.b, 0, none⟩) := by
      have : es.reverse.head? = some z := by rw [List.head?_reverse]; exact hes
      cases hr : es.reverse with
      | nil => rw [hr] at this; cases this
      | cons a l => rw [hr] at this; injection this with this; subst this; rfl
    obtain ⟨u11, k11⟩ := lkSome h.ko.behind z hz
    have z11 := h.efree z hz
    have hzt := h.ko.apart z hz
    have hze := h.blk z hz
    obtain ⟨zb, hzb⟩ : ∃ zb, z.b = zb := ⟨_, rfl⟩
    have HF : Hid (∀ w2, Wr (addA tb es e) w w2 → w2.cell? ⟨tb, 4, none⟩ = some (.int .i64 ((es.length : Int) + 1)) → w2.cell? ⟨tb, 6, none⟩ = some (.pointer (some ⟨eb, 0, none⟩)) → w2.cell? ⟨eb, 10, none⟩ = some (.pointer (some ⟨zb, 0, none⟩)) → w2.cell? ⟨zb, 11, none⟩ = some (.pointer (some ⟨eb, 0, none⟩)) →
        Calls Tryz.prog 79 #[.pointer (some ⟨tb, 0, none⟩), .pointer (some ⟨eb, 0, none⟩)] w2 fun x w' => x = .returned (.tuple #[]) ∧
          ∃ w2, Wr (addA tb es e) w w2 ∧ Wr [(e.b, 9), (g, bk e.H n), (c, bitN m e.K e.N / 64), (tb, 9)] w2 w' ∧ Or w' tb (es ++ [e]) ∧ Bk w' g n (laidC cs (bk e.H n) e) (es ++ [e]) ∧ Ct w' tb c m (cntW m W e.K e.N) (cntS m W s e.K e.N) ∧ Rw w' tb g n) :=
      fun w2 a0 a1 a2 a3 a4 => by
        subst heb
        subst hzb
        exact (h.put a0 a1 a2 (by rw [hrv]; exact a3) (by rw [hes]; exact a4)).mono fun x w' ⟨b1, b2⟩ => ⟨b1, w2, a0, b2⟩
    have HA : Hid (∀ a, a ∈ [(eb, 10), (zb, 11), (tb, 6), (tb, 4)] → a ∈ addA tb es e) := fun a ha => by
      unfold addA
      rw [heb, hes]
      simp only [List.mem_cons, List.not_mem_nil, or_false] at ha ⊢
      rcases ha with h | h | h | h <;> subst h <;> simp [hzb]
    rw [heb] at k10 z10 hnt hze ⊢
    rw [hrv] at k6
    rw [hzb] at k6 k11 z11 hzt hze
    clear h hu5 heb hes hz hrv hzb
    generalize es.length = ln at *
    go_enter Tryz.func68, Tryz.ntmps68
    go_wp2_with fail
    go_region
    go_wp2_with fail
    refine (HF.out _ ?_ ?_ ?_ ?_ ?_).mono ?_
    · exact (((((Wr.set w eb 10 _).trans (Wr.set _ zb 11 _)).trans (Wr.set _ tb 6 _)).trans (Wr.set _ tb 4 _)).trans (Wr.drew _)).more (fun a ha => HA.out a (by simpa using ha))
    · go_simp
    · go_simp
    · go_simp
    · go_simp
    · rintro x w' ⟨rfl, q⟩
      have HQ : Hid _ := q
      clear q
      go_wp2
      go_end0
      exact ⟨rfl, by rw [← HEB.out]; exact HQ.out⟩

end Go.Proofs.YthmocdabakkfhaaGreatDoor

/-
  Layer 9: add, where the buckets are full.
-/
namespace Go.Proofs.YthmocdabakkfhaaGreatDoor
set_option maxRecDepth 100000
open Go.RowKit

/-- A table whose buckets are full (or that has none), and an entry that is to come. -/
structure Ful (w : World) (tb : Nat) (es : List En) (e : En) : Prop where
  se : Se w tb es
  ko : Or w tb es
  few : es.length ≤ 500000000000
  row : ∃ a, w.cell? ⟨tb, 7, none⟩ = some (.slice a es.length es.length)
  two : 1 < w.heap.size
  efree : ∀ f ∈ es, w.frozen? ⟨f.b, 11, none⟩ = false
  lies : EnC w e ∧ e.b < w.heap.size
  hash : e.H = hN e.K e.N e.S e.O
  u64 : Flo.U64 e.N
  c9 : w.cell? ⟨e.b, 9, none⟩ = some (.pointer none)
  c10 : w.cell? ⟨e.b, 10, none⟩ = some (.pointer none)
  c11 : w.cell? ⟨e.b, 11, none⟩ = some (.pointer none)
  free : ∀ o, w.frozen? ⟨e.b, o, none⟩ = false
  ntb : e.b ≠ tb
  n1 : e.b ≠ 1
  new : ∀ f ∈ es, ¬ (e.K = f.K ∧ e.N = f.N ∧ e.S = f.S ∧ e.O = f.O)
  blk : ∀ f ∈ es, f.b ≠ e.b

/-- What is written as a table's entries are laid anew. -/
def fulA (tb : Nat) (es : List En) : List (Nat × Nat) := [(tb, 7), (tb, 8), (tb, 9)] ++ es.map fun f => (f.b, 9)

theorem Ful.rdy {w w1 W1 : World} {tb n m : Nat} {es : List En} {e : En} (h : Ful w tb es e) (hw : Sw w W1 tb n m) (hp : Sp tb w.heap.size (w.heap.size + 1) n m es W1 w1 es []) :
    ∃ cs, Rdy w1 tb w.heap.size n (w.heap.size + 1) m cs (cntF m es).1 (cntF m es).2 es e ∧ Wr (fulA tb es) w w1 := by
  obtain ⟨cs, hcs⟩ := hp.bx
  have ht := hw.wr.trans hp.wt
  have hel := h.lies.2
  have htl := h.se.tlt
  have hsz := hw.size
  have hA : ∀ k o, (k, o) ∈ [(tb, 7), (tb, 8), (tb, 9)] ++ spA tb w.heap.size (w.heap.size + 1) n m es → (k = tb ∧ 7 ≤ o) ∨ (o = 9 ∧ ∃ f ∈ es, k = f.b) ∨ w.heap.size ≤ k := by
    intro k o hm
    rcases List.mem_append.1 hm with c | c
    · simp only [List.mem_cons, Prod.mk.injEq, List.not_mem_nil, or_false] at c
      exact Or.inl ⟨by omega, by omega⟩
    · rcases spA_mem c with ⟨f, hf, c1, c2⟩ | c1 | c1 | ⟨c1, c2⟩
      · exact Or.inr (Or.inl ⟨c2, f, hf, c1⟩)
      · exact Or.inr (Or.inr (by omega))
      · exact Or.inr (Or.inr (by omega))
      · exact Or.inl ⟨c1, by omega⟩
  have hno : ∀ o, (e.b, o) ∉ [(tb, 7), (tb, 8), (tb, 9)] ++ spA tb w.heap.size (w.heap.size + 1) n m es := fun o hm => by
    rcases hA _ _ hm with ⟨k, _⟩ | ⟨_, f, hf, k⟩ | k
    · exact h.ntb k
    · exact h.blk f hf k.symm
    · omega
  have hft : ∀ f ∈ es, ∀ o, o ≠ 9 → (f.b, o) ∉ [(tb, 7), (tb, 8), (tb, 9)] ++ spA tb w.heap.size (w.heap.size + 1) n m es := fun f hf o ho hm => by
    rcases hA _ _ hm with ⟨k, _⟩ | ⟨k, _⟩ | k
    · exact h.ko.apart f hf k
    · exact ho k
    · have := (h.se.lies f hf).2; omega
  have htb : ∀ o, o < 7 → (tb, o) ∉ [(tb, 7), (tb, 8), (tb, 9)] ++ spA tb w.heap.size (w.heap.size + 1) n m es := fun o ho hm => by
    rcases hA _ _ hm with ⟨_, k⟩ | ⟨_, f, hf, k⟩ | k
    · omega
    · exact h.ko.apart f hf k.symm
    · omega
  refine ⟨cs, ⟨?_, hcs, hp.cx, ?_, by have := h.few; omega, fun o => (ht.2.1 tb o htl).trans (h.se.tfree o), fun f hf => (ht.2.1 f.b 11 (h.se.lies f hf).2).trans (h.efree f hf), ⟨h.lies.1.off ht.off (fun o _ => hno o), Nat.lt_of_lt_of_le hel ht.size⟩, h.hash, h.u64,
    ht.cell (hno 9) h.c9, ht.cell (hno 10) h.c10, ht.cell (hno 11) h.c11, fun o => (ht.2.1 e.b o hel).trans (h.free o), fun j => (hp.wt.2.1 _ j (by omega)).trans (hw.zg j), ?_, h.ntb, by omega, by omega, h.n1, by omega, by omega, by have := h.two; omega, h.se.t1, h.new, h.blk, fun f hf => ?_, fun f hf => h.se.no1 f hf⟩, ?_⟩
  · exact h.ko.wr ht (htb 4 (by omega)) (htb 5 (by omega)) (htb 6 (by omega)) (fun f hf => ⟨hft f hf 10 (by omega), hft f hf 11 (by omega)⟩)
  · refine hp.wt.cell (fun hm => ?_) hw.c7
    rcases spA_mem hm with ⟨f, hf, c1, _⟩ | c1 | c1 | ⟨_, c2⟩
    · exact h.ko.apart f hf c1.symm
    · omega
    · omega
    · omega
  · intro j hj
    refine ht.cell (fun hm => ?_) (h.se.db j hj)
    rcases hA _ _ hm with ⟨k, _⟩ | ⟨_, f, hf, k⟩ | k
    · exact h.se.t1 k.symm
    · exact h.se.no1 f hf k.symm
    · have := h.two; omega
  · have := (h.se.lies f hf).2; omega
  · refine ht.less (fun a ha => ?_)
    obtain ⟨k, o⟩ := a
    unfold fulA
    rcases List.mem_append.1 ha with c | c
    · exact Or.inl (List.mem_append_left _ c)
    · rcases spA_mem c with ⟨f, hf, c1, c2⟩ | c1 | c1 | ⟨c1, c2⟩
      · exact Or.inl (List.mem_append_right _ (List.mem_map.2 ⟨f, hf, by rw [c1, c2]⟩))
      · exact Or.inr (by simp only; omega)
      · exact Or.inr (by simp only; omega)
      · exact Or.inl (List.mem_append_left _ (by rw [c1, c2]; simp))

set_option maxHeartbeats 1000000 in
theorem add_full (tb : Nat) (es : List En) (e : En) (n m : Nat) (w : World) (h : Ful w tb es e) (hn : n = max 4 (2 * es.length)) (hm : m = (n + 63) / 64) :
    Calls Tryz.prog 68 #[.pointer (some ⟨tb, 0, none⟩), .pointer (some ⟨e.b, 0, none⟩)] w fun x w' => x = .returned (.tuple #[]) ∧
      ∃ (g c : Nat) (cs : Nat → List En) (w1 w2 : World), g = w.heap.size ∧ c = w.heap.size + 1 ∧ Wr (fulA tb es) w w1 ∧ Wr (addA tb es e) w1 w2 ∧ Wr [(e.b, 9), (g, bk e.H n), (c, bitN m e.K e.N / 64), (tb, 9)] w2 w' ∧
        Or w' tb (es ++ [e]) ∧ Bk w' g n (laidC cs (bk e.H n) e) (es ++ [e]) ∧ Ct w' tb c m (cntW m (cntF m es).1 e.K e.N) (cntS m (cntF m es).1 (cntF m es).2 e.K e.N) ∧ Rw w' tb g n := by
  have hfew0 := h.few
  have hspread := fun w' hs => spread_any tb n m es w' hm (by omega) (by omega) hs
  have k4 := h.ko.keys
  obtain ⟨a7, k7⟩ := h.row
  have hcmp : ((es.length : Int) == (es.length : Int)) = true := by simp
  have hmax : max (4 : Int) (2 * (es.length : Int)) = (n : Int) := by omega
  have HRD : Hid (∀ W1 w1, Sw w W1 tb n m → Sp tb w.heap.size (w.heap.size + 1) n m es W1 w1 es [] → ∃ cs, Rdy w1 tb w.heap.size n (w.heap.size + 1) m cs (cntF m es).1 (cntF m es).2 es e ∧ Wr (fulA tb es) w w1) := fun W1 w1 a b => h.rdy a b
  have hcall : Calls Tryz.prog 78 #[.pointer (some ⟨tb, 0, none⟩), .int .i64 (n : Int)] w.drew fun x w' => x = .returned (.tuple #[]) ∧ ∃ W, Sw w.drew W tb n m ∧ Sp tb w.drew.heap.size (w.drew.heap.size + 1) n m es W w' es [] := by
    refine spread_any tb n m es w.drew hm (by omega) (by omega) h.two ?_
    have s := h.se
    exact ⟨s.lies, s.hash, s.u64, s.ptr, s.free, s.ntb, s.no1, s.keys, s.once, s.behind.off (Wr.drew w).off (fun _ _ => by simp), s.first, s.t1, s.db, s.tlt, s.c7, s.c8, s.c9, s.tfree⟩
  clear hspread
  have HCALL : Hid (∀ (x : Ending) (w' : World), (x = .returned (.tuple #[]) ∧ ∃ W, Sw w.drew W tb n m ∧ Sp tb w.drew.heap.size (w.drew.heap.size + 1) n m es W w' es []) → x = .returned (.tuple #[]) ∧ ∃ cs, Rdy w' tb w.heap.size n (w.heap.size + 1) m cs (cntF m es).1 (cntF m es).2 es e ∧ Wr (fulA tb es) w w') := by
    rintro x w' ⟨h1, W1, h2, h3⟩
    have h2' : Sw w W1 tb n m := by
      refine ⟨?_, h2.size, h2.g, h2.c, h2.zg, h2.zc, h2.c7, h2.c8, h2.c9⟩
      have := (Wr.drew w).trans h2.wr
      exact this.more (fun a ha => by simpa using ha)
    exact ⟨h1, HRD.out W1 w' h2' h3⟩
  clear h hm hn HRD
  obtain ⟨ln, hln⟩ : ∃ ln, es.length = ln := ⟨_, rfl⟩
  have HLN : Hid (es.length = ln) := hln
  rw [hln] at k4 k7 hcmp hmax hfew0
  clear hln
  go_enter Tryz.func68, Tryz.ntmps68
  go_wp2_with fail
  go_region
  go_upto_if 13 with fail
  go_cut [] (fun wc => Hid (∃ cs, Rdy wc tb w.heap.size n (w.heap.size + 1) m cs (cntF m es).1 (cntF m es).2 es e ∧ Wr (fulA tb es) w wc))
  case first =>
    by_cases cx : (4 : Int) < 2 * (ln : Int)
    · have hq : (n : Int) = 2 * (ln : Int) := by omega
      rw [hq] at hcall
      have cx1 : ¬ 2 * (ln : Int) ≤ 4 := by omega
      have cx2 : ¬ 2 * (ln : Int) < 4 := by omega
      have cx3 : (4 : Int) ≤ 2 * (ln : Int) := by omega
      clear hmax hq
      go_wp2_with fail
      refine hcall.mono ?_
      intro x w' hx
      obtain ⟨rfl, hq⟩ := HCALL.out x w' hx
      have HQ : Hid _ := hq
      clear hq hx hcall
      go_wp2_with fail
      go_meet
      case rel => exact HQ
    · have hq : (n : Int) = 4 := by omega
      rw [hq] at hcall
      have cx1 : 2 * (ln : Int) ≤ 4 := by omega
      by_cases cy : 2 * (ln : Int) = 4
      · rw [cy] at *
        clear hmax hq
        go_wp2_with fail
        refine hcall.mono ?_
        intro x w' hx
        obtain ⟨rfl, hq⟩ := HCALL.out x w' hx
        have HQ : Hid _ := hq
        clear hq hx hcall
        go_wp2_with fail
        go_meet
        case rel => exact HQ
      · have cx2 : 2 * (ln : Int) < 4 := by omega
        have cx3 : ¬ (4 : Int) ≤ 2 * (ln : Int) := by omega
        clear hmax hq
        go_wp2_with fail
        refine hcall.mono ?_
        intro x w' hx
        obtain ⟨rfl, hq⟩ := HCALL.out x w' hx
        have HQ : Hid _ := hq
        clear hq hx hcall
        go_wp2_with fail
        go_meet
        case rel => exact HQ
  case rest =>
    clear hcall HCALL hcmp hmax k4 k7
    obtain ⟨cs, h, hfl⟩ := hcut.out
    have HFL : Hid (Wr (fulA tb es) w wc) := hfl
    clear hfl hcut
    obtain ⟨g, hg⟩ : ∃ g, g = w.heap.size := ⟨_, rfl⟩
    obtain ⟨c, hc⟩ : ∃ c, c = w.heap.size + 1 := ⟨_, rfl⟩
    rw [← hc, ← hg] at h
    have HG : Hid (g = w.heap.size) := hg
    have HC : Hid (c = w.heap.size + 1) := hc
    clear hg hc
    have k4 := h.ko.keys
    have k5 := h.ko.first
    have k6 := h.ko.last
    have k10 := h.c10
    have z4 := h.tfree 4
    have z5 := h.tfree 5
    have z6 := h.tfree 6
    have z10 := h.free 10
    have hnt := h.ntb
    have hfew := h.few
    obtain ⟨u5, hu5⟩ : ∃ u, hd es = .pointer u := by cases es <;> exact ⟨_, rfl⟩
    rw [hu5] at k5
    obtain ⟨eb, heb⟩ : ∃ eb, e.b = eb := ⟨_, rfl⟩
    have HEB : Hid (e.b = eb) := heb
    rcases hes : es.getLast? with _ | z
    · have e0 : es = [] := by
        cases es with
        | nil => rfl
        | cons a l => simp at hes
      subst e0
      have HF : Hid (∀ w2, Wr (addA tb [] e) wc w2 → w2.cell? ⟨tb, 4, none⟩ = some (.int .i64 1) → w2.cell? ⟨tb, 6, none⟩ = some (.pointer (some ⟨eb, 0, none⟩)) → w2.cell? ⟨eb, 10, none⟩ = some (.pointer none) → w2.cell? ⟨tb, 5, none⟩ = some (.pointer (some ⟨eb, 0, none⟩)) →
          Calls Tryz.prog 79 #[.pointer (some ⟨tb, 0, none⟩), .pointer (some ⟨eb, 0, none⟩)] w2 fun x w' => x = .returned (.tuple #[]) ∧
            ∃ w2, Wr (addA tb [] e) wc w2 ∧ Wr [(e.b, 9), (g, bk e.H n), (c, bitN m e.K e.N / 64), (tb, 9)] w2 w' ∧ Or w' tb ([] ++ [e]) ∧ Bk w' g n (laidC cs (bk e.H n) e) ([] ++ [e]) ∧ Ct w' tb c m (cntW m (cntF m []).1 e.K e.N) (cntS m (cntF m []).1 (cntF m []).2 e.K e.N) ∧ Rw w' tb g n) :=
        fun w2 a0 a1 a2 a3 a4 => by
          subst heb
          exact (h.put a0 a1 a2 a3 a4).mono fun x w' ⟨b1, b2⟩ => ⟨b1, w2, a0, b2⟩
      have HA : Hid (∀ a, a ∈ [(eb, 10), (tb, 5), (tb, 6), (tb, 4)] → a ∈ addA tb [] e) := fun a ha => by
        unfold addA
        rw [heb]
        simp only [List.mem_cons, List.not_mem_nil, or_false, List.getLast?_nil] at ha ⊢
        rcases ha with h | h | h | h <;> subst h <;> simp
      rw [heb] at k10 z10 hnt ⊢
      clear h hu5 heb
      rw [show hd ([] : List En).reverse = .pointer none from rfl] at k6
      have k40 : wc.cell? ⟨tb, 4, none⟩ = some (.int .i64 0) := k4
      clear k4
      go_wp2_with fail
      refine (HF.out _ ?_ ?_ ?_ ?_ ?_).mono ?_
      · exact ((((Wr.set wc eb 10 _).trans (Wr.set _ tb 5 _)).trans (Wr.set _ tb 6 _)).trans (Wr.set _ tb 4 _)).more (fun a ha => HA.out a (by simpa using ha))
      · go_simp
      · go_simp
      · go_simp
      · go_simp
      · rintro x w' ⟨rfl, q⟩
        have HQ : Hid _ := q
        clear q
        go_wp2
        go_end0
        obtain ⟨w2, b1, b2, b3, b4, b5⟩ := HQ.out
        exact ⟨rfl, g, c, cs, wc, w2, HG.out, HC.out, HFL.out, b1, by first | exact b2 | (rw [← HEB.out]; exact b2), b3, b4, b5⟩
    · have hz : z ∈ es := List.mem_of_getLast? hes
      have hrv : hd es.reverse = .pointer (some ⟨z.b, 0, none⟩) := by
        have : es.reverse.head? = some z := by rw [List.head?_reverse]; exact hes
        cases hr : es.reverse with
        | nil => rw [hr] at this; cases this
        | cons a l => rw [hr] at this; injection this with this; subst this; rfl
      obtain ⟨u11, k11⟩ := lkSome h.ko.behind z hz
      have z11 := h.efree z hz
      have hzt := h.ko.apart z hz
      have hze := h.blk z hz
      obtain ⟨zb, hzb⟩ : ∃ zb, z.b = zb := ⟨_, rfl⟩
      have HF : Hid (∀ w2, Wr (addA tb es e) wc w2 → w2.cell? ⟨tb, 4, none⟩ = some (.int .i64 ((es.length : Int) + 1)) → w2.cell? ⟨tb, 6, none⟩ = some (.pointer (some ⟨eb, 0, none⟩)) → w2.cell? ⟨eb, 10, none⟩ = some (.pointer (some ⟨zb, 0, none⟩)) → w2.cell? ⟨zb, 11, none⟩ = some (.pointer (some ⟨eb, 0, none⟩)) →
          Calls Tryz.prog 79 #[.pointer (some ⟨tb, 0, none⟩), .pointer (some ⟨eb, 0, none⟩)] w2 fun x w' => x = .returned (.tuple #[]) ∧
            ∃ w2, Wr (addA tb es e) wc w2 ∧ Wr [(e.b, 9), (g, bk e.H n), (c, bitN m e.K e.N / 64), (tb, 9)] w2 w' ∧ Or w' tb (es ++ [e]) ∧ Bk w' g n (laidC cs (bk e.H n) e) (es ++ [e]) ∧ Ct w' tb c m (cntW m (cntF m es).1 e.K e.N) (cntS m (cntF m es).1 (cntF m es).2 e.K e.N) ∧ Rw w' tb g n) :=
        fun w2 a0 a1 a2 a3 a4 => by
          subst heb
          subst hzb
          exact (h.put a0 a1 a2 (by rw [hrv]; exact a3) (by rw [hes]; exact a4)).mono fun x w' ⟨b1, b2⟩ => ⟨b1, w2, a0, b2⟩
      have HA : Hid (∀ a, a ∈ [(eb, 10), (zb, 11), (tb, 6), (tb, 4)] → a ∈ addA tb es e) := fun a ha => by
        unfold addA
        rw [heb, hes]
        simp only [List.mem_cons, List.not_mem_nil, or_false] at ha ⊢
        rcases ha with h | h | h | h <;> subst h <;> simp [hzb]
      rw [heb] at k10 z10 hnt hze ⊢
      rw [hrv] at k6
      rw [hzb] at k6 k11 z11 hzt hze
      clear h hu5 heb hes hz hrv hzb
      generalize es.length = ln at *
      go_wp2_with fail
      refine (HF.out _ ?_ ?_ ?_ ?_ ?_).mono ?_
      · exact ((((Wr.set wc eb 10 _).trans (Wr.set _ zb 11 _)).trans (Wr.set _ tb 6 _)).trans (Wr.set _ tb 4 _)).more (fun a ha => HA.out a (by simpa using ha))
      · go_simp
      · go_simp
      · go_simp
      · go_simp
      · rintro x w' ⟨rfl, q⟩
        have HQ : Hid _ := q
        clear q
        go_wp2
        go_end0
        obtain ⟨w2, b1, b2, b3, b4, b5⟩ := HQ.out
        exact ⟨rfl, g, c, cs, wc, w2, HG.out, HC.out, HFL.out, b1, by first | exact b2 | (rw [← HEB.out]; exact b2), b3, b4, b5⟩

end Go.Proofs.YthmocdabakkfhaaGreatDoor

/-
  Layer 9: a key that goes: drop, as far as its place among the chains.
-/
namespace Go.Proofs.YthmocdabakkfhaaGreatDoor
set_option maxRecDepth 100000
open Go.RowKit

theorem lkAfter {w : World} {o : Nat} : ∀ {l : List En} {x : En} {r : List En}, Lk w o (l ++ x :: r) → w.cell? ⟨x.b, o, none⟩ = some (hd r)
  | [], _, _, h => h.1
  | _ :: l, _, _, h => lkAfter (l := l) h.2
/-- The cell that leads to the rest of a chain. -/
theorem Bk.link {w : World} {g n : Nat} {cs : Nat → List En} {es : List En} (h : Bk w g n cs es) {j : Nat} (hj : j < n) {p r : List En} (hc : cs j = p ++ r) : w.cell? ⟨(linkOf g j p).1, (linkOf g j p).2, none⟩ = some (hd r) := by
  unfold linkOf
  cases hp : p.getLast? with
  | none =>
    have : p = [] := by
      cases p with
      | nil => rfl
      | cons a l => simp at hp
    subst this
    have k := h.head j hj
    rw [hc] at k
    exact k
  | some x =>
    obtain ⟨q, rfl⟩ := List.getLast?_eq_some_iff.1 hp
    have k := h.chain j hj
    rw [hc, List.append_assoc] at k
    exact lkAfter k
theorem linkOf_snoc (g j : Nat) (p : List En) (f : En) : linkOf g j (p ++ [f]) = (f.b, 9) := by
  unfold linkOf
  rw [List.getLast?_append]
  rfl

theorem info95 : (Tryz.prog.info? 72).map (·.size) = some 12 := by kernel_rfl
theorem neq_ptr (w : World) (a b : Nat) (h : a ≠ b) (ha : Blk w a) (hb : Blk w b) :
    Sem.run Tryz.prog (binOp BinOp.neq 61 (.pointer (some ⟨a, 0, none⟩)) (.pointer (some ⟨b, 0, none⟩))) w.drew = .ok (.bool true) w.drew := by
  obtain ⟨ca, ta, ha⟩ := ha
  obtain ⟨cb, tb, hb⟩ := hb
  cases hq : Tryz.prog.info? 72 with
  | none => have := info95; rw [hq] at this; cases this
  | some q =>
    have hsz : q.size ≠ 0 := by have := info95; rw [hq] at this; simp at this; omega
    have k : ∀ d : Nat, (Op.equalIn (d + 1) 61 (.pointer (some ⟨a, 0, none⟩)) (.pointer (some ⟨b, 0, none⟩))).run Tryz.prog w.drew = .ok false w.drew := fun d => by
      simp [Op.equalIn, run_underlying Tryz.underlying61, sizeOf, typeInfo, hq, hsz, run_sameAddr_other w.drew (a := ⟨a, 0, none⟩) (b := ⟨b, 0, none⟩) (fun e => h (by injection e)) ha hb]
    simp only [binOp]
    simp [Op.equal, Op.maxDepth, k 9999]
theorem neq_ptr_same (w : World) (a : Nat) : Sem.run Tryz.prog (binOp BinOp.neq 61 (.pointer (some ⟨a, 0, none⟩)) (.pointer (some ⟨a, 0, none⟩))) w = .ok (.bool false) w := by
  cases hq : Tryz.prog.info? 72 with
  | none => have := info95; rw [hq] at this; cases this
  | some q => exact Lib.run_neq_ptr_same w ⟨a, 0, none⟩ Tryz.underlying61 hq

/-- A table, and an entry of it that is to go. -/
structure Dr (w : World) (tb g n c m : Nat) (cs : Nat → List En) (W : Nat → Nat) (s : Nat) (xo : List En) (e : En) (yo : List En) : Prop where
  ko : Or w tb (xo ++ e :: yo)
  kb : Bk w g n cs (xo ++ e :: yo)
  kc : Ct w tb c m W s
  row : w.cell? ⟨tb, 7, none⟩ = some (.slice (some ⟨g, 0, none⟩) n n)
  tfree : ∀ o, w.frozen? ⟨tb, o, none⟩ = false
  efree : ∀ f ∈ xo ++ e :: yo, ∀ o, w.frozen? ⟨f.b, o, none⟩ = false
  zg : ∀ j, w.frozen? ⟨g, j, none⟩ = false
  u64 : Flo.U64 e.N
  db : Db w
  gt : g ≠ tb
  gc : g ≠ c
  g1 : g ≠ 1
  t1 : tb ≠ 1
  ec : ∀ f ∈ xo ++ e :: yo, f.b ≠ c
  e1 : ∀ f ∈ xo ++ e :: yo, f.b ≠ 1
  blk : ∀ f ∈ xo ++ e :: yo, Blk w f.b

end Go.Proofs.YthmocdabakkfhaaGreatDoor

/-
  Layer 9: a key that goes: what is left of the chains, of the order and of what is counted.
-/
namespace Go.Proofs.YthmocdabakkfhaaGreatDoor
set_option maxRecDepth 100000
open Go.RowKit

/-- An entry that is out of its chain, in the order still. -/
structure D2 (w : World) (tb g n c m : Nat) (cs : Nat → List En) (W : Nat → Nat) (s : Nat) (xo : List En) (e : En) (yo : List En) : Prop where
  ko : Or w tb (xo ++ e :: yo)
  kb : Bk w g n cs (xo ++ yo)
  kc : Ct w tb c m W s
  row : w.cell? ⟨tb, 7, none⟩ = some (.slice (some ⟨g, 0, none⟩) n n)
  tfree : ∀ o, w.frozen? ⟨tb, o, none⟩ = false
  efree : ∀ f ∈ xo ++ e :: yo, ∀ o, w.frozen? ⟨f.b, o, none⟩ = false
  lies : EnC w e
  u64 : Flo.U64 e.N
  gt : g ≠ tb
  gc : g ≠ c
  ng : e.b ≠ g
  ec : ∀ f ∈ xo ++ e :: yo, f.b ≠ c

theorem linkOf_cases {g j : Nat} {p : List En} {k o : Nat} (h : (k, o) = linkOf g j p) : (k = g ∧ o = j) ∨ (o = 9 ∧ ∃ x ∈ p, k = x.b) := by
  unfold linkOf at h
  cases hp : p.getLast? with
  | none => rw [hp] at h; injection h with h1 h2; exact Or.inl ⟨h1, h2⟩
  | some x => rw [hp] at h; injection h with h1 h2; exact Or.inr ⟨h2, x, List.mem_of_getLast? hp, h1⟩

theorem Dr.cut {w w1 : World} {tb g n c m : Nat} {cs : Nat → List En} {W : Nat → Nat} {s : Nat} {xo yo p r : List En} {e : En} (h : Dr w tb g n c m cs W s xo e yo)
    (hc : cs (bk e.H n) = p ++ e :: r) (hw : Wr [linkOf g (bk e.H n) p] w w1) (hl : w1.cell? ⟨(linkOf g (bk e.H n) p).1, (linkOf g (bk e.H n) p).2, none⟩ = some (hd r)) :
    D2 w1 tb g n c m (cutC cs (bk e.H n) (p ++ r)) W s xo e yo := by
  have he : e ∈ xo ++ e :: yo := by simp
  have hj := bk_lt e.H h.kb.pos
  have hp : ∀ x ∈ p, x ∈ xo ++ e :: yo ∧ x ≠ e := by
    intro x hx
    refine ⟨((h.kb.mem _ hj x).1 (by rw [hc]; exact List.mem_append_left _ hx)).1, fun k => ?_⟩
    have hnd := h.kb.once _ hj
    rw [hc] at hnd
    exact (List.nodup_append.1 hnd).2.2 x hx e (by simp) k
  have hA : ∀ k o, (k, o) ∈ [linkOf g (bk e.H n) p] → (k = g ∧ o = bk e.H n) ∨ (o = 9 ∧ ∃ x ∈ xo ++ e :: yo, x ≠ e ∧ k = x.b) := by
    intro k o hm
    rcases linkOf_cases (List.mem_singleton.1 hm) with c | ⟨c1, x, hx, c2⟩
    · exact Or.inl c
    · exact Or.inr ⟨c1, x, (hp x hx).1, (hp x hx).2, c2⟩
  have htb : ∀ o, (tb, o) ∉ [linkOf g (bk e.H n) p] := fun o hm => by
    rcases hA _ _ hm with ⟨k, _⟩ | ⟨_, x, hx, _, k⟩
    · exact h.gt k.symm
    · exact h.ko.apart x hx k.symm
  have hfo : ∀ f ∈ xo ++ e :: yo, ∀ o, o ≠ 9 → (f.b, o) ∉ [linkOf g (bk e.H n) p] := fun f hf o ho hm => by
    rcases hA _ _ hm with ⟨k, _⟩ | ⟨k, _⟩
    · exact h.kb.apart f hf k
    · exact ho k
  have hco : ∀ i, (c, i) ∉ [linkOf g (bk e.H n) p] := fun i hm => by
    rcases hA _ _ hm with ⟨k, _⟩ | ⟨_, x, hx, _, k⟩
    · exact h.gc k.symm
    · exact h.ec x hx k.symm
  have hes : ∀ x, x ∈ xo ++ yo ↔ x ∈ xo ++ e :: yo ∧ x ≠ e := by
    intro x
    have hnd : (xo ++ e :: yo).Nodup := List.Pairwise.of_map En.b (fun a b q k => q (by rw [k])) h.ko.once
    have hnd2 := List.nodup_append.1 hnd
    have h3 := List.nodup_cons.1 hnd2.2.1
    constructor
    · intro hx
      rcases List.mem_append.1 hx with k | k
      · exact ⟨by simp [k], fun q => hnd2.2.2 x k e (by simp) q⟩
      · exact ⟨by simp [k], fun q => h3.1 (q ▸ k)⟩
    · rintro ⟨hx, hne⟩
      rcases List.mem_append.1 hx with k | k
      · exact List.mem_append_left _ k
      · rcases List.mem_cons.1 k with q | q
        · exact absurd q hne
        · exact List.mem_append_right _ q
  exact ⟨h.ko.wr hw (htb 4) (htb 5) (htb 6) (fun f hf => ⟨hfo f hf 10 (by omega), hfo f hf 11 (by omega)⟩), h.kb.cut he hes hc hw.off hl, h.kc.wr hw (htb 8) (htb 9) hco, hw.cell (htb 7) h.row,
    fun o => (hw.2.1 tb o h.kc.tlt).trans (h.tfree o), fun f hf o => (hw.2.1 f.b o (h.kb.lies f hf).2).trans (h.efree f hf o), (h.kb.lies e he).1.off hw.off (fun o ho => hfo e he o (by omega)), h.u64, h.gt, h.gc, h.kb.apart e he, h.ec⟩

theorem disS_le {m s : Nat} {K N : Int} (h : s ≤ m * 64) : disS m s K N ≤ m * 64 := by
  unfold disS
  split <;> omega
theorem D2.put {w w2 : World} {tb g n c m : Nat} {cs : Nat → List En} {W : Nat → Nat} {s : Nat} {xo yo : List En} {e : En} (h : D2 w tb g n c m cs W s xo e yo) (hw : Wr (dropA tb xo yo) w w2)
    (c4 : w2.cell? ⟨tb, 4, none⟩ = some (.int .i64 ((xo.length + yo.length : Nat) : Int)))
    (cb : match xo.getLast? with
      | none => w2.cell? ⟨tb, 5, none⟩ = some (hd yo)
      | some z => w2.cell? ⟨z.b, 11, none⟩ = some (hd yo))
    (ca1 : yo = [] → w2.cell? ⟨tb, 6, none⟩ = some (hd xo.reverse)) (ca2 : ∀ y l, yo = y :: l → w2.cell? ⟨y.b, 10, none⟩ = some (hd xo.reverse)) :
    Calls Tryz.prog 77 #[.pointer (some ⟨tb, 0, none⟩), .agg #[.int .i64 e.K, .int .u64 e.N, .string e.S, .int .i64 e.O]] w2 fun x w' => x = .returned (.tuple #[]) ∧
      Wr [(c, bitN m e.K e.N / 64), (tb, 9)] w2 w' ∧ Or w' tb (xo ++ yo) ∧ Bk w' g n cs (xo ++ yo) ∧ Ct w' tb c m (disW m W e.K e.N) (disS m s e.K e.N) ∧ w'.cell? ⟨tb, 7, none⟩ = some (.slice (some ⟨g, 0, none⟩) n n) := by
  have hA : ∀ k o, (k, o) ∈ dropA tb xo yo → (k = tb ∧ (o = 4 ∨ o = 5 ∨ o = 6)) ∨ ((o = 10 ∨ o = 11) ∧ ∃ f ∈ xo ++ yo, k = f.b) := by
    intro k o hm
    rcases dropA_cases hm with ⟨c1, c2⟩ | ⟨c1, z, hz, c2⟩ | ⟨c1, y, l, hy, c2⟩
    · exact Or.inl ⟨c1, by omega⟩
    · exact Or.inr ⟨Or.inr c1, z, List.mem_append_left _ (List.mem_of_getLast? hz), c2⟩
    · exact Or.inr ⟨Or.inl c1, y, by rw [hy]; simp, c2⟩
  have hmem : ∀ f ∈ xo ++ yo, f ∈ xo ++ e :: yo := fun f hf => by
    rcases List.mem_append.1 hf with k | k
    · exact List.mem_append_left _ k
    · exact List.mem_append_right _ (List.mem_cons_of_mem _ k)
  have htb : ∀ o, 7 ≤ o → (tb, o) ∉ dropA tb xo yo := fun o ho hm => by
    rcases hA _ _ hm with ⟨_, k⟩ | ⟨_, f, hf, k⟩
    · omega
    · exact h.ko.apart f (hmem f hf) k.symm
  have hgo : ∀ j, (g, j) ∉ dropA tb xo yo := fun j hm => by
    rcases hA _ _ hm with ⟨k, _⟩ | ⟨_, f, hf, k⟩
    · exact h.gt k
    · exact h.kb.apart f hf k.symm
  have hco : ∀ i, (c, i) ∉ dropA tb xo yo := fun i hm => by
    rcases hA _ _ hm with ⟨k, _⟩ | ⟨_, f, hf, k⟩
    · exact h.kc.ne k.symm
    · exact h.ec f (hmem f hf) k.symm
  have hfo : ∀ f ∈ xo ++ yo, ∀ o, o ≤ 9 → (f.b, o) ∉ dropA tb xo yo := fun f hf o ho hm => by
    rcases hA _ _ hm with ⟨k, _⟩ | ⟨k, _⟩
    · exact h.ko.apart f (hmem f hf) k
    · omega
  have hct := h.kc.wr hw (htb 8 (by omega)) (htb 9 (by omega)) hco
  have hbk := h.kb.wr hw hgo hfo
  have hor : Or w2 tb (xo ++ yo) := by
    have ko := h.ko
    have ho := hw.off
    clear hA hmem htb hgo hco hfo hct hbk h hw
    cases yo with
    | nil => exact ko.drop ho c4 cb (ca1 rfl)
    | cons y l => exact ko.drop ho c4 cb (ca2 y l rfl)
  have hdis := discount_any tb c m s W e.K e.N e.S e.O w2 h.u64 hct
  have hB : ∀ k o, (k, o) ∈ [(c, bitN m e.K e.N / 64), (tb, 9)] → k = c ∨ (k = tb ∧ o = 9) := by
    intro k o hm
    simp only [List.mem_cons, Prod.mk.injEq, List.not_mem_nil, or_false] at hm
    rcases hm with ⟨k, _⟩ | k
    · exact Or.inl k
    · exact Or.inr k
  have htc := h.kc.ne
  have hB2 : ∀ o, o ≠ 9 → (tb, o) ∉ [(c, bitN m e.K e.N / 64), (tb, 9)] := fun o ho hm => by
    rcases hB _ _ hm with k | ⟨_, k⟩
    · exact htc k
    · exact ho k
  have hB3 : ∀ f ∈ xo ++ yo, ∀ o, (f.b, o) ∉ [(c, bitN m e.K e.N / 64), (tb, 9)] := fun f hf o hm => by
    rcases hB _ _ hm with k | ⟨k, _⟩
    · exact h.ec f (hmem f hf) k
    · exact h.ko.apart f (hmem f hf) k
  have hB4 : ∀ j, (g, j) ∉ [(c, bitN m e.K e.N / 64), (tb, 9)] := fun j hm => by
    rcases hB _ _ hm with k | ⟨k, _⟩
    · exact h.gc k
    · exact h.gt k
  refine hdis.mono fun x w' ⟨h1, h2, h3, h4⟩ => ⟨h1, h2, hor.wr h2 (hB2 4 (by omega)) (hB2 5 (by omega)) (hB2 6 (by omega)) (fun f hf => ⟨hB3 f hf 10, hB3 f hf 11⟩), hbk.wr h2 hB4 (fun f hf o _ => hB3 f hf o), ?_, h2.cell (hB2 7 (by omega)) (hw.cell (htb 7 (by omega)) h.row)⟩
  exact ⟨Nat.lt_of_lt_of_le hct.tlt h2.size, Nat.lt_of_lt_of_le hct.clt h2.size, hct.ne, hct.one, hct.few, h2.cell (hB2 8 (by omega)) hct.row, h4, disS_le hct.fit, h3, fun i => (h2.2.1 c i hct.clt).trans (hct.wfree i), (h2.2.1 tb 9 hct.tlt).trans hct.sfree⟩

end Go.Proofs.YthmocdabakkfhaaGreatDoor
