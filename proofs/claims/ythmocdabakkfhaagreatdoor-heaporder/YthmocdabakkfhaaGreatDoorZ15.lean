/-
  HpLay, HpOrder, HpWr, HpCount, HpDis, HpCnt
-/
import Derived.Test.YthmocdabakkfhaaGreatDoorZ14

/-
  Layer 9: a key laid into its bucket, a key taken out of it: what becomes of the chains.
-/
namespace Go.Proofs.YthmocdabakkfhaaGreatDoor
set_option maxRecDepth 100000
open Go.RowKit

/-- All cells that there were but those of A are as they were, and no block is gone. -/
def Off (A : List (Nat × Nat)) (w w' : World) : Prop := (∀ k o v, (k, o) ∉ A → w.cell? ⟨k, o, none⟩ = some v → w'.cell? ⟨k, o, none⟩ = some v) ∧ w.heap.size ≤ w'.heap.size

theorem EnC.off {A : List (Nat × Nat)} {w w' : World} {e : En} (h : EnC w e) (ho : Off A w w') (hA : ∀ o, o ≤ 8 → (e.b, o) ∉ A) : EnC w' e := by
  obtain ⟨h0, h1, h2, h3, h4, h5, h6, h7, h8⟩ := h
  exact ⟨ho.1 _ _ _ (hA 0 (by omega)) h0, ho.1 _ _ _ (hA 1 (by omega)) h1, ho.1 _ _ _ (hA 2 (by omega)) h2, ho.1 _ _ _ (hA 3 (by omega)) h3, ho.1 _ _ _ (hA 4 (by omega)) h4, ho.1 _ _ _ (hA 5 (by omega)) h5, ho.1 _ _ _ (hA 6 (by omega)) h6, ho.1 _ _ _ (hA 7 (by omega)) h7, ho.1 _ _ _ (hA 8 (by omega)) h8⟩
theorem Lk.off {A : List (Nat × Nat)} {w w' : World} {o : Nat} (ho : Off A w w') : ∀ {l : List En}, Lk w o l → (∀ e ∈ l, (e.b, o) ∉ A) → Lk w' o l
  | [], _, _ => trivial
  | e :: _, h, hA => ⟨ho.1 _ _ _ (hA e List.mem_cons_self) h.1, Lk.off ho h.2 fun x hx => hA x (List.mem_cons_of_mem _ hx)⟩

/-- The chains with an entry laid ahead of the others of its bucket. -/
def laidC (cs : Nat → List En) (j : Nat) (e : En) : Nat → List En := fun i => if i = j then e :: cs j else cs i

theorem Bk.lay {w w' : World} {g n : Nat} {cs : Nat → List En} {es es' : List En} {e : En} (h : Bk w g n cs es) (hes : ∀ x, x ∈ es' ↔ x = e ∨ x ∈ es)
    (hl : EnC w e ∧ e.b < w.heap.size) (hh : e.H = hN e.K e.N e.S e.O) (hnew : ∀ f ∈ es, ¬ (e.K = f.K ∧ e.N = f.N ∧ e.S = f.S ∧ e.O = f.O)) (hb : ∀ f ∈ es, f.b ≠ e.b) (hg : e.b ≠ g)
    (ho : Off [(e.b, 9), (g, bk e.H n)] w w') (h9 : w'.cell? ⟨e.b, 9, none⟩ = some (hd (cs (bk e.H n)))) (hj : w'.cell? ⟨g, bk e.H n, none⟩ = some (.pointer (some ⟨e.b, 0, none⟩))) :
    Bk w' g n (laidC cs (bk e.H n) e) es' := by
  have hs := ho.2
  have hgs := h.apart
  have hoff : ∀ f ∈ es, ∀ o, (f.b, o) ∉ [(e.b, 9), (g, bk e.H n)] := by
    intro f hf o hm
    simp only [List.mem_cons, Prod.mk.injEq, List.not_mem_nil, or_false] at hm
    rcases hm with ⟨a, _⟩ | ⟨a, _⟩
    · exact hb f hf a
    · exact hgs f hf a
  have heoff : ∀ o, o ≤ 8 → (e.b, o) ∉ [(e.b, 9), (g, bk e.H n)] := by
    intro o ho' hm
    simp only [List.mem_cons, Prod.mk.injEq, List.not_mem_nil, or_false] at hm
    rcases hm with ⟨_, a⟩ | ⟨a, _⟩
    · omega
    · exact hg a
  have hin : ∀ j, j < n → ∀ x ∈ cs j, x ∈ es := fun j hj x hx => ((h.mem j hj x).1 hx).1
  refine ⟨h.pos, h.few, by have := h.lt; omega, fun i hi => ?_, fun i hi => ?_, fun i hi x => ?_, fun x hx => ?_, fun x hx => ?_, fun x hx y hy => ?_, fun i hi => ?_, fun x hx y hy k => ?_, fun x hx => ?_⟩
  · unfold laidC
    by_cases c : i = bk e.H n
    · rw [if_pos c, c, hj]; rfl
    · rw [if_neg c]
      exact ho.1 _ _ _ (by simp only [List.mem_cons, Prod.mk.injEq, List.not_mem_nil, or_false]; rintro (⟨a, _⟩ | ⟨_, a⟩); exact hg a.symm; exact c a) (h.head i hi)
  · unfold laidC
    by_cases c : i = bk e.H n
    · rw [if_pos c]
      subst c
      exact ⟨h9, (h.chain _ hi).off ho fun x hx => hoff x (hin _ hi x hx) 9⟩
    · rw [if_neg c]
      exact (h.chain i hi).off ho fun x hx => hoff x (hin i hi x hx) 9
  · unfold laidC
    by_cases c : i = bk e.H n
    · rw [if_pos c, List.mem_cons, hes]
      subst c
      rw [h.mem _ hi]
      constructor
      · rintro (rfl | ⟨a, b⟩)
        · exact ⟨.inl rfl, rfl⟩
        · exact ⟨.inr a, b⟩
      · rintro ⟨rfl | a, b⟩
        · exact .inl rfl
        · exact .inr ⟨a, b⟩
    · rw [if_neg c, hes, h.mem i hi]
      constructor
      · rintro ⟨a, b⟩; exact ⟨.inr a, b⟩
      · rintro ⟨rfl | a, b⟩
        · exact absurd b.symm c
        · exact ⟨a, b⟩
  · rcases (hes x).1 hx with rfl | hx
    · exact ⟨hl.1.off ho heoff, by have := hl.2; omega⟩
    · exact ⟨(h.lies x hx).1.off ho fun o _ => hoff x hx o, by have := (h.lies x hx).2; omega⟩
  · rcases (hes x).1 hx with rfl | hx
    · exact hh
    · exact h.hash x hx
  · intro a b c d
    rcases (hes x).1 hx with rfl | hx
    · rcases (hes y).1 hy with rfl | hy
      · rfl
      · exact absurd ⟨a, b, c, d⟩ (hnew y hy)
    · rcases (hes y).1 hy with rfl | hy
      · exact absurd ⟨a.symm, b.symm, c.symm, d.symm⟩ (hnew x hx)
      · exact h.own x hx y hy a b c d
  · unfold laidC
    by_cases c : i = bk e.H n
    · rw [if_pos c]
      subst c
      exact List.nodup_cons.2 ⟨fun hm => hb e (hin _ hi e hm) rfl, h.once _ hi⟩
    · rw [if_neg c]; exact h.once i hi
  · rcases (hes x).1 hx with rfl | hx
    · rcases (hes y).1 hy with rfl | hy
      · rfl
      · exact absurd k.symm (hb y hy)
    · rcases (hes y).1 hy with rfl | hy
      · exact absurd k (hb x hx)
      · exact h.block x hx y hy k
  · rcases (hes x).1 hx with rfl | hx
    · exact hg
    · exact h.apart x hx

theorem hd_append (zs : List En) (x : En) (r r' : List En) : hd (zs ++ x :: r) = hd (zs ++ x :: r') := by cases zs <;> rfl
theorem Lk.relink {w w' : World} {o : Nat} {x : En} {r r' : List En} (ho : Off [(x.b, o)] w w') (hx : w'.cell? ⟨x.b, o, none⟩ = some (hd r')) (hr : Lk w' o r') : ∀ {zs : List En}, Lk w o (zs ++ x :: r) → (∀ z ∈ zs, z.b ≠ x.b) → Lk w' o (zs ++ x :: r')
  | [], _, _ => ⟨hx, hr⟩
  | z :: zs, h, hz => by
    refine ⟨?_, Lk.relink ho hx hr h.2 fun y hy => hz y (List.mem_cons_of_mem _ hy)⟩
    exact ho.1 _ _ _ (by simp only [List.mem_cons, Prod.mk.injEq, List.not_mem_nil, or_false]; rintro ⟨a, _⟩; exact hz z List.mem_cons_self a) (h.1.trans (congrArg some (hd_append zs x r r')))
theorem Lk.tail {w : World} {o : Nat} : ∀ {zs r : List En}, Lk w o (zs ++ r) → Lk w o r
  | [], _, h => h
  | _ :: _, _, h => Lk.tail h.2

/-- The chains without an entry. -/
def cutC (cs : Nat → List En) (j : Nat) (l : List En) : Nat → List En := fun i => if i = j then l else cs i
/-- The cell that leads to what stands behind xs in the chain of the bucket j. -/
def linkOf (g j : Nat) (xs : List En) : Nat × Nat := match xs.getLast? with
  | none => (g, j)
  | some x => (x.b, 9)

theorem Bk.cut {w w' : World} {g n : Nat} {cs : Nat → List En} {es es' : List En} {e : En} {xs ys : List En} (h : Bk w g n cs es) (he : e ∈ es) (hes : ∀ x, x ∈ es' ↔ x ∈ es ∧ x ≠ e)
    (hc : cs (bk e.H n) = xs ++ e :: ys) (ho : Off [linkOf g (bk e.H n) xs] w w') (hl : w'.cell? ⟨(linkOf g (bk e.H n) xs).1, (linkOf g (bk e.H n) xs).2, none⟩ = some (hd ys)) :
    Bk w' g n (cutC cs (bk e.H n) (xs ++ ys)) es' := by
  have hs := ho.2
  have hj := bk_lt e.H h.pos
  have hin : ∀ j, j < n → ∀ x ∈ cs j, x ∈ es := fun j hj x hx => ((h.mem j hj x).1 hx).1
  have hxs : ∀ x ∈ xs, x ∈ es := fun x hx => hin _ hj x (by rw [hc]; exact List.mem_append_left _ hx)
  have hnd := h.once _ hj
  rw [hc] at hnd
  have hlk := h.chain _ hj
  rw [hc] at hlk
  have hoff : ∀ f ∈ es, ∀ o, o ≤ 8 → (f.b, o) ∉ [linkOf g (bk e.H n) xs] := by
    intro f hf o ho' hm
    rw [List.mem_singleton] at hm
    unfold linkOf at hm
    split at hm
    · injection hm with a _; exact h.apart f hf a
    · injection hm with _ a; omega
  have hoff9 : ∀ f ∈ es, f ∉ xs → ∀ o, (f.b, o) ∉ [linkOf g (bk e.H n) xs] := by
    intro f hf hn o hm
    rw [List.mem_singleton] at hm
    unfold linkOf at hm
    split at hm
    · injection hm with a _; exact h.apart f hf a
    · rename_i x hx
      injection hm with a _
      have hxx := List.mem_of_getLast? hx
      exact hn (by rw [h.block f hf x (hxs x hxx) a]; exact hxx)
  have hys : ∀ y ∈ ys, y ∈ es ∧ y ∉ xs := by
    intro y hy
    refine ⟨hin _ hj y (by rw [hc]; exact List.mem_append_right _ (List.mem_cons_of_mem _ hy)), fun hx => ?_⟩
    exact (List.nodup_append.1 hnd).2.2 y hx y (List.mem_cons_of_mem _ hy) rfl
  have hlys : Lk w' 9 ys := (Lk.tail (zs := xs ++ [e]) (by simpa using hlk)).off ho fun y hy => hoff9 y (hys y hy).1 (hys y hy).2 9
  have hex : e ∉ xs := fun hx => (List.nodup_append.1 hnd).2.2 e hx e List.mem_cons_self rfl
  have hey : e ∉ ys := (List.nodup_cons.1 (List.nodup_append.1 hnd).2.1).1
  refine ⟨h.pos, h.few, by have := h.lt; omega, fun i hi => ?_, fun i hi => ?_, fun i hi x => ?_, fun x hx => ?_, fun x hx => ?_, fun x hx y hy => ?_, fun i hi => ?_, fun x hx y hy k => ?_, fun x hx => ?_⟩
  · unfold cutC
    by_cases c : i = bk e.H n
    · rw [if_pos c]
      subst c
      rcases List.eq_nil_or_concat xs with rfl | ⟨zs, z, rfl⟩
      · simpa [linkOf] using hl
      · refine ho.1 _ _ _ (by rw [List.mem_singleton]; simp [linkOf]; intro a; exact absurd a.symm (h.apart z (hxs z (by simp)))) ?_
        rw [h.head _ hi, hc]
        simp only [List.concat_eq_append, List.append_assoc, List.cons_append, List.nil_append]
        rw [hd_append]
    · rw [if_neg c]
      refine ho.1 _ _ _ ?_ (h.head i hi)
      · rw [List.mem_singleton]
        unfold linkOf
        split
        · intro a; injection a with _ a; exact c a
        · rename_i z hz
          intro a; injection a with a _
          exact h.apart z (hxs z (List.mem_of_getLast? hz)) a.symm
  · unfold cutC
    by_cases c : i = bk e.H n
    · rw [if_pos c]
      rcases List.eq_nil_or_concat xs with rfl | ⟨zs, z, rfl⟩
      · exact hlys
      · have hz : linkOf g (bk e.H n) (zs.concat z) = (z.b, 9) := by simp [linkOf]
        rw [hz] at ho hl
        simp only [List.concat_eq_append, List.append_assoc, List.cons_append, List.nil_append] at hlk hnd ⊢
        refine Lk.relink ho hl hlys hlk fun y hy => ?_
        intro a
        have := h.block y (hxs y (by simp [hy])) z (hxs z (by simp)) a
        subst this
        exact (List.nodup_append.1 hnd).2.2 y hy y List.mem_cons_self rfl
    · rw [if_neg c]
      refine (h.chain i hi).off ho fun x hx => ?_
      refine hoff9 x (hin i hi x hx) (fun hm => c ?_) 9
      rw [← ((h.mem i hi x).1 hx).2, ((h.mem _ hj x).1 (by rw [hc]; exact List.mem_append_left _ hm)).2]
  · unfold cutC
    by_cases c : i = bk e.H n
    · rw [if_pos c, hes]
      subst c
      have := h.mem _ hi x
      rw [hc, List.mem_append, List.mem_cons] at this
      rw [List.mem_append]
      constructor
      · intro a
        have hm := this.1 (a.elim .inl fun a => .inr (.inr a))
        refine ⟨⟨hm.1, ?_⟩, hm.2⟩
        rintro rfl
        exact a.elim hex hey
      · rintro ⟨⟨a, b⟩, c⟩
        rcases this.2 ⟨a, c⟩ with a | rfl | a
        · exact .inl a
        · exact absurd rfl b
        · exact .inr a
    · rw [if_neg c, hes, h.mem i hi]
      constructor
      · rintro ⟨a, b⟩; exact ⟨⟨a, by rintro rfl; exact c b.symm⟩, b⟩
      · rintro ⟨⟨a, _⟩, b⟩; exact ⟨a, b⟩
  · have hx := ((hes x).1 hx).1
    exact ⟨(h.lies x hx).1.off ho fun o k => hoff x hx o k, by have := (h.lies x hx).2; omega⟩
  · exact h.hash x ((hes x).1 hx).1
  · exact h.own x ((hes x).1 hx).1 y ((hes y).1 hy).1
  · unfold cutC
    by_cases c : i = bk e.H n
    · rw [if_pos c]
      exact hnd.sublist (List.Sublist.append (List.Sublist.refl _) (List.sublist_cons_self _ _))
    · rw [if_neg c]; exact h.once i hi
  · exact h.block x ((hes x).1 hx).1 y ((hes y).1 hy).1 k
  · exact h.apart x ((hes x).1 hx).1
end Go.Proofs.YthmocdabakkfhaaGreatDoor

/-
  Layer 9: a table's entries in the order in which they came: one more behind, one less.
-/
namespace Go.Proofs.YthmocdabakkfhaaGreatDoor
set_option maxRecDepth 100000
open Go.RowKit

theorem Lk.relink2 {A : List (Nat × Nat)} {w w' : World} {o : Nat} {x : En} {r r' : List En} (ho : Off A w w') (hx : w'.cell? ⟨x.b, o, none⟩ = some (hd r')) (hr : Lk w' o r') : ∀ {zs : List En}, Lk w o (zs ++ x :: r) → (∀ z ∈ zs, (z.b, o) ∉ A) → Lk w' o (zs ++ x :: r')
  | [], _, _ => ⟨hx, hr⟩
  | z :: zs, h, hz => by
    refine ⟨?_, Lk.relink2 ho hx hr h.2 fun y hy => hz y (List.mem_cons_of_mem _ hy)⟩
    exact ho.1 _ _ _ (hz z List.mem_cons_self) (h.1.trans (congrArg some (hd_append zs x r r')))

/-- The table in the block tb has the entries es, linked in their order. -/
structure Or (w : World) (tb : Nat) (es : List En) : Prop where
  keys : w.cell? ⟨tb, 4, none⟩ = some (.int .i64 (es.length : Nat))
  first : w.cell? ⟨tb, 5, none⟩ = some (hd es)
  last : w.cell? ⟨tb, 6, none⟩ = some (hd es.reverse)
  behind : Lk w 11 es
  ahead : Lk w 10 es.reverse
  once : (es.map En.b).Nodup
  apart : ∀ e ∈ es, e.b ≠ tb

theorem once_ne {es : List En} {x y : En} (h : (es.map En.b).Nodup) {a b : List En} (he : es = a ++ x :: b) (hy : y ∈ a ∨ y ∈ b) : y.b ≠ x.b := by
  subst he
  rw [List.map_append, List.map_cons] at h
  have h2 := List.nodup_append.1 h
  rcases hy with hy | hy
  · intro c
    exact h2.2.2 y.b (List.mem_map_of_mem hy) x.b List.mem_cons_self c
  · intro c
    exact (List.nodup_cons.1 h2.2.1).1 (by rw [← c]; exact List.mem_map_of_mem hy)

/-- What is written when an entry comes behind all others. -/
def addA (tb : Nat) (es : List En) (e : En) : List (Nat × Nat) := (match es.getLast? with
  | none => (tb, 5)
  | some z => (z.b, 11)) :: [(e.b, 10), (tb, 6), (tb, 4)]

theorem Or.add {w w' : World} {tb : Nat} {es : List En} {e : En} (h : Or w tb es) (hb : ∀ f ∈ es, f.b ≠ e.b) (ht : e.b ≠ tb) (ho : Off (addA tb es e) w w')
    (c4 : w'.cell? ⟨tb, 4, none⟩ = some (.int .i64 ((es.length + 1 : Nat) : Int))) (c6 : w'.cell? ⟨tb, 6, none⟩ = some (.pointer (some ⟨e.b, 0, none⟩))) (c10 : w'.cell? ⟨e.b, 10, none⟩ = some (hd es.reverse)) (c11 : w.cell? ⟨e.b, 11, none⟩ = some (.pointer none))
    (cl : match es.getLast? with
      | none => w'.cell? ⟨tb, 5, none⟩ = some (.pointer (some ⟨e.b, 0, none⟩))
      | some z => w'.cell? ⟨z.b, 11, none⟩ = some (.pointer (some ⟨e.b, 0, none⟩))) : Or w' tb (es ++ [e]) := by
  have c11' : w'.cell? ⟨e.b, 11, none⟩ = some (.pointer none) := by
    refine ho.1 _ _ _ ?_ c11
    unfold addA
    intro hm
    rcases List.mem_cons.1 hm with a | a
    · split at a
      · injection a with a _; exact ht a
      · rename_i z hz
        injection a with a _; exact hb z (List.mem_of_getLast? hz) a.symm
    · simp only [List.mem_cons, Prod.mk.injEq, List.not_mem_nil, or_false] at a
      omega
  have hl10 : ∀ z ∈ es, (z.b, 10) ∉ addA tb es e := by
    intro z hz hm
    unfold addA at hm
    rcases List.mem_cons.1 hm with a | a
    · split at a
      · injection a with _ a; omega
      · injection a with _ a; omega
    · simp only [List.mem_cons, Prod.mk.injEq, List.not_mem_nil, or_false] at a
      rcases a with ⟨a, _⟩ | ⟨_, a⟩ | ⟨_, a⟩
      · exact hb z hz a
      · omega
      · omega
  refine ⟨by rw [c4]; simp, ?_, by rw [c6]; simp [hd], ?_, ?_, ?_, ?_⟩
  · rcases List.eq_nil_or_concat es with rfl | ⟨zs, z, rfl⟩
    · exact cl
    · refine ho.1 _ _ _ ?_ (h.first.trans ?_)
      rotate_left
      · simp only [List.concat_eq_append, List.append_assoc, List.cons_append, List.nil_append]
        rw [hd_append]
      · unfold addA
        intro hm
        rcases List.mem_cons.1 hm with a | a
        · simp at a
        · simp only [List.mem_cons, Prod.mk.injEq, List.not_mem_nil, or_false] at a
          omega
  · rcases List.eq_nil_or_concat es with rfl | ⟨zs, z, rfl⟩
    · exact ⟨c11', trivial⟩
    · have hlk := h.behind
      simp only [List.concat_eq_append, List.append_assoc, List.cons_append, List.nil_append] at hlk cl ⊢
      refine Lk.relink2 ho (r' := [e]) (by simpa [hd] using cl) ⟨c11', trivial⟩ hlk fun y hy => ?_
      intro hm
      have hyb := hb y (by simp [hy])
      unfold addA at hm
      rcases List.mem_cons.1 hm with a | a
      · simp at a
        exact once_ne h.once (a := zs) (b := []) (by simp) (.inl hy) a
      · simp only [List.mem_cons, Prod.mk.injEq, List.not_mem_nil, or_false] at a
        omega
  · rw [List.reverse_append]
    refine ⟨c10, h.ahead.off ho fun z hz => hl10 z (List.mem_reverse.1 hz)⟩
  · rw [List.map_append]
    refine List.nodup_append.2 ⟨h.once, by simp, fun a ha b hb' => ?_⟩
    obtain ⟨f, hf, rfl⟩ := List.mem_map.1 ha
    simp at hb'
    subst hb'
    exact hb f hf
  · intro f hf
    rcases List.mem_append.1 hf with hf | hf
    · exact h.apart f hf
    · rw [List.mem_singleton] at hf; subst hf; exact ht

/-- What is written when an entry goes from between xs and ys. -/
def dropA (tb : Nat) (xs ys : List En) : List (Nat × Nat) := [(match xs.getLast? with
  | none => (tb, 5)
  | some z => (z.b, 11)), (match ys with
  | [] => (tb, 6)
  | y :: _ => (y.b, 10)), (tb, 4)]

theorem dropA_cases {tb : Nat} {xs ys : List En} {a o : Nat} (h : (a, o) ∈ dropA tb xs ys) : (a = tb ∧ (o = 4 ∨ (o = 5 ∧ xs = []) ∨ (o = 6 ∧ ys = []))) ∨ (o = 11 ∧ ∃ z, xs.getLast? = some z ∧ a = z.b) ∨ (o = 10 ∧ ∃ y l, ys = y :: l ∧ a = y.b) := by
  unfold dropA at h
  rcases List.mem_cons.1 h with c | h
  · cases hx : xs.getLast? with
    | none =>
      rw [hx] at c; injection c with c d
      exact .inl ⟨c, .inr (.inl ⟨d, List.getLast?_eq_none_iff.1 hx⟩)⟩
    | some z => rw [hx] at c; injection c with c d; exact .inr (.inl ⟨d, z, rfl, c⟩)
  · rcases List.mem_cons.1 h with c | h
    · cases ys with
      | nil => injection c with c d; exact .inl ⟨c, .inr (.inr ⟨d, rfl⟩)⟩
      | cons y l => injection c with c d; exact .inr (.inr ⟨d, y, l, rfl, c⟩)
    · rw [List.mem_singleton] at h
      injection h with c d; exact .inl ⟨c, .inl d⟩

theorem Or.drop {w w' : World} {tb : Nat} {xs ys : List En} {e : En} (h : Or w tb (xs ++ e :: ys)) (ho : Off (dropA tb xs ys) w w')
    (c4 : w'.cell? ⟨tb, 4, none⟩ = some (.int .i64 ((xs.length + ys.length : Nat) : Int)))
    (cb : match xs.getLast? with
      | none => w'.cell? ⟨tb, 5, none⟩ = some (hd ys)
      | some z => w'.cell? ⟨z.b, 11, none⟩ = some (hd ys))
    (ca : match ys with
      | [] => w'.cell? ⟨tb, 6, none⟩ = some (hd xs.reverse)
      | y :: _ => w'.cell? ⟨y.b, 10, none⟩ = some (hd xs.reverse)) : Or w' tb (xs ++ ys) := by
  have hrev : (xs ++ e :: ys).reverse = ys.reverse ++ e :: xs.reverse := by simp
  have hbe := h.behind
  have hah := h.ahead
  rw [hrev] at hah
  have hon := h.once
  have ny : ∀ y ∈ ys, (y.b, 11) ∉ dropA tb xs ys := by
    intro y hy hm
    rcases dropA_cases hm with ⟨a, _⟩ | ⟨_, z, hz, a⟩ | ⟨a, _⟩
    · exact h.apart y (by simp [hy]) a
    · rw [List.map_append] at hon
      exact (List.nodup_append.1 hon).2.2 z.b (List.mem_map_of_mem (List.mem_of_getLast? hz)) y.b (List.mem_map_of_mem (List.mem_cons_of_mem _ hy)) a.symm
    · omega
  have nx : ∀ x ∈ xs, (x.b, 10) ∉ dropA tb xs ys := by
    intro x hx hm
    rcases dropA_cases hm with ⟨a, _⟩ | ⟨a, _⟩ | ⟨_, y, l, hy, a⟩
    · exact h.apart x (by simp [hx]) a
    · omega
    · rw [List.map_append] at hon
      exact (List.nodup_append.1 hon).2.2 x.b (List.mem_map_of_mem hx) y.b (List.mem_map_of_mem (by rw [hy]; simp)) a
  have hys : Lk w' 11 ys := (Lk.tail (zs := xs ++ [e]) (by simpa using hbe)).off ho ny
  have hxs : Lk w' 10 xs.reverse := (Lk.tail (zs := ys.reverse ++ [e]) (by simpa using hah)).off ho fun x hx => nx x (List.mem_reverse.1 hx)
  refine ⟨by rw [c4]; simp, ?_, ?_, ?_, ?_, ?_, ?_⟩
  · rcases List.eq_nil_or_concat xs with rfl | ⟨zs, z, rfl⟩
    · exact cb
    · refine ho.1 _ _ _ ?_ (h.first.trans ?_)
      rotate_left
      · simp only [List.concat_eq_append, List.append_assoc, List.cons_append, List.nil_append]
        rw [hd_append]
      · intro hm
        rcases dropA_cases hm with ⟨_, a | ⟨_, a⟩ | ⟨a, _⟩⟩ | ⟨a, _⟩ | ⟨a, _⟩
        · omega
        · simp at a
        · omega
        · omega
        · omega
  · cases ys with
    | nil => rw [ca]; simp
    | cons y l =>
      refine ho.1 _ _ _ ?_ (h.last.trans ?_)
      rotate_left
      · rw [hrev]
        simp only [List.reverse_append, List.reverse_cons, List.append_assoc, List.cons_append, List.nil_append]
        rw [hd_append]
      · intro hm
        rcases dropA_cases hm with ⟨_, a | ⟨a, _⟩ | ⟨_, a⟩⟩ | ⟨a, _⟩ | ⟨a, _⟩
        · omega
        · omega
        · simp at a
        · omega
        · omega
  · rcases List.eq_nil_or_concat xs with rfl | ⟨zs, z, rfl⟩
    · exact hys
    · simp only [List.concat_eq_append, List.append_assoc, List.cons_append, List.nil_append] at hbe ⊢
      refine Lk.relink2 ho (by simpa using cb) hys hbe fun y hy => ?_
      intro hm
      rcases dropA_cases hm with ⟨a, _⟩ | ⟨_, z', hz, a⟩ | ⟨a, _⟩
      · exact h.apart y (by simp [hy]) a
      · simp at hz
        subst hz
        exact once_ne hon (a := zs) (b := e :: ys) (by simp) (.inl hy) a
      · omega
  · rw [List.reverse_append]
    cases ys with
    | nil => exact hxs
    | cons y l =>
      simp only [List.reverse_cons, List.append_assoc, List.cons_append, List.nil_append] at hah ⊢
      refine Lk.relink2 ho ca hxs hah fun x hx => ?_
      intro hm
      rw [List.mem_reverse] at hx
      rcases dropA_cases hm with ⟨a, _⟩ | ⟨a, _⟩ | ⟨_, y', l', hy, a⟩
      · exact h.apart x (by simp [hx]) a
      · omega
      · injection hy with hy _
        subst hy
        exact once_ne hon (a := xs ++ [e]) (b := l) (by simp) (.inr hx) a
  · exact hon.sublist (List.Sublist.map _ (List.Sublist.append (List.Sublist.refl _) (List.sublist_cons_self _ _)))
  · intro x hx
    refine h.apart x ?_
    rcases List.mem_append.1 hx with hx | hx
    · exact List.mem_append_left _ hx
    · exact List.mem_append_right _ (List.mem_cons_of_mem _ hx)
end Go.Proofs.YthmocdabakkfhaaGreatDoor

/-
  Layer 9: what a call writes: the cells of a list, and memory of its own.
-/
namespace Go.Proofs.YthmocdabakkfhaaGreatDoor
set_option maxRecDepth 100000
open Go.RowKit

/-- A block of plain cells, none of them frozen. -/
def Blk (w : World) (k : Nat) : Prop := ∃ cs t, w.heap[k]? = some (.cells cs t (0, 0))
/-- From w to w' no more is written of what there was than the cells of A. -/
def Wr (A : List (Nat × Nat)) (w w' : World) : Prop :=
  Off A w w' ∧ (∀ k o, k < w.heap.size → w'.frozen? ⟨k, o, none⟩ = w.frozen? ⟨k, o, none⟩) ∧ (∀ B, (∀ a ∈ A, B ≤ a.1) → B ≤ w.heap.size → Below B w w') ∧ (∀ k, Blk w k → Blk w' k) ∧
    (∀ k, k < w.heap.size → (∀ o, (k, o) ∉ A) → w'.heap[k]? = w.heap[k]?)
theorem Wr.blk {A : List (Nat × Nat)} {w w' : World} (h : Wr A w w') {k : Nat} (hk : Blk w k) : Blk w' k := h.2.2.2.1 k hk
theorem Wr.block {A : List (Nat × Nat)} {w w' : World} (h : Wr A w w') {k : Nat} (hk : k < w.heap.size) (hA : ∀ o, (k, o) ∉ A) : w'.heap[k]? = w.heap[k]? := h.2.2.2.2 k hk hA
theorem Wr.below {A : List (Nat × Nat)} {w w' : World} (h : Wr A w w') : ∀ B, (∀ a ∈ A, B ≤ a.1) → B ≤ w.heap.size → Below B w w' := h.2.2.1
theorem Blk.lt {w : World} {k : Nat} (h : Blk w k) : k < w.heap.size := by
  obtain ⟨cs, t, h⟩ := h
  rcases Nat.lt_or_ge k w.heap.size with c | c
  · exact c
  · rw [Array.getElem?_eq_none c] at h; cases h
theorem Wr.off {A : List (Nat × Nat)} {w w' : World} (h : Wr A w w') : Off A w w' := h.1
theorem Wr.cell {A : List (Nat × Nat)} {w w' : World} (h : Wr A w w') {k o : Nat} {v : Value} (hA : (k, o) ∉ A) (hc : w.cell? ⟨k, o, none⟩ = some v) : w'.cell? ⟨k, o, none⟩ = some v := h.1.1 k o v hA hc
theorem Wr.size {A : List (Nat × Nat)} {w w' : World} (h : Wr A w w') : w.heap.size ≤ w'.heap.size := h.1.2
theorem Wr.refl (w : World) : Wr [] w w := ⟨⟨fun _ _ _ _ h => h, Nat.le_refl _⟩, fun _ _ _ => rfl, fun _ _ _ => Below.refl _ _, fun _ h => h, fun _ _ _ => rfl⟩
theorem Wr.of_below {w w' : World} (h : Below w.heap.size w w') : Wr [] w w' :=
  ⟨⟨fun k o _ _ hc => (h.cell (p := ⟨k, o, none⟩) (World.block_lt_of_cell? w _ hc)).trans hc, h.size⟩, fun k o hk => h.frozen (p := ⟨k, o, none⟩) hk, fun _ _ hB => h.mono hB, fun k ⟨cs, t, hk⟩ => ⟨cs, t, (h.block k (Blk.lt ⟨cs, t, hk⟩)).trans hk⟩, fun k hk _ => h.block k hk⟩
theorem Wr.trans {A A' : List (Nat × Nat)} {a b c : World} (h : Wr A a b) (k : Wr A' b c) : Wr (A ++ A') a c := by
  refine ⟨⟨fun x o v hA hc => ?_, Nat.le_trans h.size k.size⟩, fun x o hx => ?_, fun B hB hs => ?_, fun x hx => k.blk (h.blk hx), fun x hx hA => ?_⟩
  · rw [List.mem_append, not_or] at hA
    exact k.cell hA.2 (h.cell hA.1 hc)
  · rw [k.2.1 x o (Nat.lt_of_lt_of_le hx h.size), h.2.1 x o hx]
  · exact (h.below B (fun a ha => hB a (List.mem_append_left _ ha)) hs).trans (k.below B (fun a ha => hB a (List.mem_append_right _ ha)) (Nat.le_trans hs h.size))
  · exact (k.block (Nat.lt_of_lt_of_le hx h.size) (fun o hm => hA o (List.mem_append_right _ hm))).trans (h.block hx (fun o hm => hA o (List.mem_append_left _ hm)))
theorem Wr.more {A A' : List (Nat × Nat)} {w w' : World} (h : Wr A w w') (hA : ∀ a ∈ A, a ∈ A') : Wr A' w w' :=
  ⟨⟨fun _ _ _ hn hc => h.cell (fun hm => hn (hA _ hm)) hc, h.size⟩, h.2.1, fun B hB hs => h.below B (fun a ha => hB a (hA a ha)) hs, fun _ hk => h.blk hk, fun _ hk hn => h.block hk (fun o hm => hn o (hA _ hm))⟩
theorem Wr.set (w : World) (k o : Nat) (v : Value) : Wr [(k, o)] w (w.setCell ⟨k, o, none⟩ v) := by
  refine ⟨⟨fun x p u hn hc => ?_, by rw [World.size_setCell]; exact Nat.le_refl _⟩, fun x p _ => by rw [World.frozen?_setCell], fun B hB _ => (Below.refl _ _).setCell (p := ⟨k, o, none⟩) (hB (k, o) List.mem_cons_self) _, fun x hx => ?_, fun x _ hA => heap_setCell_other w ⟨k, o, none⟩ x v (fun e => hA o (by simp only at e; rw [e]; exact List.mem_cons_self))⟩
  · rw [World.cell?_setCell_other _ _ _ _ ?_]
    · exact hc
    · intro e
      apply hn
      rw [List.mem_singleton]
      injection e with e1 e2
      first
        | rw [e1, e2]
        | rw [← e1, ← e2]
  · obtain ⟨cs, t, hx⟩ := hx
    by_cases e : x = k
    · subst e
      exact ⟨_, t, heap_setCell_same w x o cs t v hx⟩
    · exact ⟨cs, t, (heap_setCell_other w ⟨k, o, none⟩ x v e).trans hx⟩
theorem Wr.drew (w : World) : Wr [] w w.drew := Wr.of_below (Below.refl _ _).drew
end Go.Proofs.YthmocdabakkfhaaGreatDoor

/-
  Layer 9: a key that comes is counted.
-/
namespace Go.Proofs.YthmocdabakkfhaaGreatDoor
set_option maxRecDepth 100000
open Go.RowKit

set_option maxHeartbeats 2000000 in
theorem count_no (tb m : Nat) (a : Option Addr) (K N : Int) (S : ByteArray) (O : Int) (w : World) (hN : Flo.U64 N) (htb : tb < w.heap.size) (h8 : w.cell? ⟨tb, 8, none⟩ = some (.slice a m m)) (hm : m ≤ 1099511627776) (hb : bitB m K N = false) :
    Calls Tryz.prog 89 #[.pointer (some ⟨tb, 0, none⟩), .agg #[.int .i64 K, .int .u64 N, .string S, .int .i64 O]] w fun e w' => e = .returned (.tuple #[]) ∧ Below w.heap.size w w' := by
  have hb0 : Below w.heap.size w (w.alloc (.cells #[.int .i64 K, .int .u64 N, .string S, .int .i64 O] 37)) := (Below.refl _ _).alloc (Nat.le_refl _) _
  have HF := hbit_any tb m m a K N S O (w.alloc (.cells #[.int .i64 K, .int .u64 N, .string S, .int .i64 O] 37)) hN (by simp; omega) ((hb0.cell htb).trans h8) hm
  rw [hb] at HF
  generalize bitN m K N = at_ at *
  have HB : Hid (Below w.heap.size w (w.alloc (.cells #[.int .i64 K, .int .u64 N, .string S, .int .i64 O] 37))) := hb0
  clear hb0 hb
  go_enter Tryz.func89, Tryz.ntmps89
  go_wp2_with fail
  refine HF.mono ?_
  rintro e w1 ⟨rfl, hb1⟩
  have HB1 : Hid (Below w.heap.size w w1) := HB.out.trans (hb1.mono (by simp))
  clear HF hb1 HB
  go_wp2
  refine bodyPost_ret (results_none rfl _ _ _) rfl ?_
  exact ⟨rfl, HB1.out⟩

/-- One word another. -/
def setW (W : Nat → Nat) (i v : Nat) : Nat → Nat := fun j => if j = i then v else W j
/-- m words in the block c. -/
def Ws (w : World) (c m : Nat) (W : Nat → Nat) : Prop := ∀ i, i < m → W i < 18446744073709551616 ∧ w.cell? ⟨c, i, none⟩ = some (.int .u64 (W i : Int))
theorem Ws.set {w : World} {c m i v : Nat} {W : Nat → Nat} (h : Ws w c m W) (hi : i < m) (hv : v < 18446744073709551616) : Ws (w.setCell ⟨c, i, none⟩ (.int .u64 (v : Int))) c m (setW W i v) := by
  intro j hj
  unfold setW
  by_cases e : j = i
  · rw [if_pos e, e]
    exact ⟨hv, World.cell?_setCell_same _ _ _ (h i hi).2⟩
  · rw [if_neg e]
    refine ⟨(h j hj).1, ?_⟩
    rw [World.cell?_setCell_other _ _ _ _ (by simp <;> omega)]
    exact (h j hj).2
theorem or_bit (x r : Nat) (hx : x < 18446744073709551616) (hr : r < 64) : bits BinOp.or IntKind.u64 (x : Int) (IntKind.u64.wrap (2 ^ r)) = ((x ||| 2 ^ r : Nat) : Int) ∧ x ||| 2 ^ r < 18446744073709551616 := by
  have h2 : 2 ^ r < 18446744073709551616 := by
    have := Nat.pow_lt_pow_right (a := 2) (by decide) hr
    exact this
  have e : IntKind.u64.wrap (2 ^ r) = ((2 ^ r : Nat) : Int) := by
    rw [IntKind.wrap_u64]
    rw [show (2 : Int) ^ r = ((2 ^ r : Nat) : Int) from by simp]
    generalize 2 ^ r = t at *
    omega
  rw [e, bits_or_u64_nat x _ hx h2]
  exact ⟨rfl, Nat.or_lt_two_pow (n := 64) hx h2⟩

set_option maxHeartbeats 2000000 in
theorem count_put (tb c m s : Nat) (W : Nat → Nat) (K N : Int) (S : ByteArray) (O : Int) (w : World) (hN : Flo.U64 N) (htb : tb < w.heap.size) (hc : c < w.heap.size) (htc : tb ≠ c) (h8 : w.cell? ⟨tb, 8, none⟩ = some (.slice (some ⟨c, 0, none⟩) m m)) (h9 : w.cell? ⟨tb, 9, none⟩ = some (.int .i64 (s : Int))) (hm : m ≤ 1099511627776) (hs : s ≤ m * 64)
    (hb : bitB m K N = true) (hat : bitN m K N < m * 64) (hW : Ws w c m W) (hz : ∀ i, w.frozen? ⟨c, i, none⟩ = false) (hz9 : w.frozen? ⟨tb, 9, none⟩ = false) (hT : Db w) (hTc : c ≠ 1) :
    Calls Tryz.prog 89 #[.pointer (some ⟨tb, 0, none⟩), .agg #[.int .i64 K, .int .u64 N, .string S, .int .i64 O]] w fun e w' => e = .returned (.tuple #[]) ∧
      Wr [(c, bitN m K N / 64), (tb, 9)] w w' ∧ Ws w' c m (setW W (bitN m K N / 64) (W (bitN m K N / 64) ||| 2 ^ (bitN m K N % 64))) ∧
      w'.cell? ⟨tb, 9, none⟩ = some (.int .i64 ((if bitN m K N = s then gapN (setW W (bitN m K N / 64) (W (bitN m K N / 64) ||| 2 ^ (bitN m K N % 64))) m s else s : Nat) : Int)) := by
  have hb0 : Below w.heap.size w (w.alloc (.cells #[.int .i64 K, .int .u64 N, .string S, .int .i64 O] 37)) := (Below.refl _ _).alloc (Nat.le_refl _) _
  have HF := hbit_any tb m m (some ⟨c, 0, none⟩) K N S O (w.alloc (.cells #[.int .i64 K, .int .u64 N, .string S, .int .i64 O] 37)) hN (by simp; omega) ((hb0.cell htb).trans h8) hm
  rw [hb] at HF
  generalize bitN m K N = p at *
  have HB : Hid (Below w.heap.size w (w.alloc (.cells #[.int .i64 K, .int .u64 N, .string S, .int .i64 O] 37))) := hb0
  have hi : p / 64 < m := by omega
  have hq : (p : Int) / 64 = ((p / 64 : Nat) : Int) := by omega
  have hr : (p : Int) % 64 = ((p % 64 : Nat) : Int) := by omega
  have hr2 : p % 64 < 64 := by omega
  generalize p / 64 = i at *
  generalize p % 64 = r at *
  obtain ⟨v, hv⟩ : ∃ v, v = W i ||| 2 ^ r := ⟨_, rfl⟩
  obtain ⟨W', hW'⟩ : ∃ W', W' = setW W i v := ⟨_, rfl⟩
  rw [← hv, ← hW']
  obtain ⟨s', hs'⟩ : ∃ s', s' = (if p = s then gapN W' m s else s) := ⟨_, rfl⟩
  rw [← hs']
  have HS' : Hid (s' = (if p = s then gapN W' m s else s)) := hs'
  have HV : Hid (v = W i ||| 2 ^ r ∧ W' = setW W i v) := ⟨hv, hW'⟩
  have HWs : Hid (Ws w c m W) := hW
  have HZ : Hid (∀ i, w.frozen? ⟨c, i, none⟩ = false) := hz
  have HD : Hid (Db w) := hT
  clear hb0 hb hv hW' hW hz hT hs'
  go_enter Tryz.func89, Tryz.ntmps89
  go_wp2_with fail
  refine HF.mono ?_
  rintro e w1 ⟨rfl, hb1⟩
  have HB1 : Hid (Below w.heap.size w w1) := HB.out.trans (hb1.mono (by simp))
  obtain ⟨w0, w2⟩ := HWs.out i hi
  have d8 : w1.cell? ⟨tb, 8, none⟩ = some (.slice (some ⟨c, 0, none⟩) m m) := (HB1.out.cell htb).trans h8
  have d2 : w1.cell? ⟨c, i, none⟩ = some (.int .u64 (W i : Int)) := (HB1.out.cell hc).trans w2
  have d3 : w1.frozen? ⟨c, i, none⟩ = false := (HB1.out.frozen hc).trans (HZ.out i)
  obtain ⟨o1, o2⟩ := or_bit (W i) r w0 hr2
  rw [← HV.out.1] at o1 o2
  clear HF hb1 HB w2
  go_wp2_with fail
  go_region
  have HW1 : Hid (Ws w1 c m W) := fun j hj => ⟨(HWs.out j hj).1, (HB1.out.cell hc).trans (HWs.out j hj).2⟩
  have HWr : Hid (Wr [(c, i)] w (w1.setCell ⟨c, i, none⟩ (.int .u64 (v : Int))).drew) := (((Wr.of_below HB1.out).trans (Wr.set w1 c i _)).trans (Wr.drew _)).more (by simp)
  have HW2 : Hid (Ws (w1.setCell ⟨c, i, none⟩ (.int .u64 (v : Int))).drew c m W') := by
    have := HW1.out.set hi o2
    rw [← HV.out.2] at this
    exact this
  generalize (w1.setCell ⟨c, i, none⟩ (.int .u64 (v : Int))).drew = w5 at HWr HW2 ⊢
  have f8 : w5.cell? ⟨tb, 8, none⟩ = some (.slice (some ⟨c, 0, none⟩) m m) := HWr.out.cell (by simp; omega) h8
  have f9 : w5.cell? ⟨tb, 9, none⟩ = some (.int .i64 (s : Int)) := HWr.out.cell (by simp; omega) h9
  have fz : w5.frozen? ⟨tb, 9, none⟩ = false := (HWr.out.2.1 _ _ htb).trans hz9
  clear d8 d2 d3 o1 o2 HW1 hq hr
  by_cases hps : p = s
  · have hD5 : Db w5 := fun j hj => HWr.out.cell (by simp; omega) (HD.out j hj)
    have HG := gap_any tb c m s W' w5 f8 f9 hm hs HW2.out hD5
    have HS2 : Hid (s' = gapN W' m s) := by have := HS'.out; rw [if_pos hps] at this; exact this
    rw [← HS2.out] at HG
    clear HS' HS2
    subst hps
    go_wp2_with fail
    refine HG.mono ?_
    rintro e w6 ⟨rfl, rfl⟩
    clear HG
    go_wp2
    go_end0
    refine ⟨rfl, (HWr.out.trans (Wr.set _ tb 9 _)).more (by simp), fun j hj => ⟨(HW2.out j hj).1, ?_⟩, ?_⟩
    · rw [World.cell?_setCell_other _ _ _ _ (by simp <;> omega)]; exact (HW2.out j hj).2
    · exact World.cell?_setCell_same _ _ _ f9
  · have hps' : ¬ (p : Int) = (s : Int) := by omega
    have HS2 : Hid (s' = s) := by have := HS'.out; rw [if_neg hps] at this; exact this
    clear hps HS'
    go_wp2
    go_end0
    exact ⟨rfl, HWr.out.more (by simp), HW2.out, by rw [HS2.out]; exact f9⟩
end Go.Proofs.YthmocdabakkfhaaGreatDoor

/-
  Layer 9: a key that goes is counted no more.
-/
namespace Go.Proofs.YthmocdabakkfhaaGreatDoor
set_option maxRecDepth 100000
open Go.RowKit

/-- A word without a bit. -/
def clrW (x r : Nat) : Nat := (bits BinOp.andNot IntKind.u64 (x : Int) (IntKind.u64.wrap (2 ^ r))).toNat
theorem clr_bit (x r : Nat) : bits BinOp.andNot IntKind.u64 (x : Int) (IntKind.u64.wrap (2 ^ r)) = ((clrW x r : Nat) : Int) ∧ clrW x r < 18446744073709551616 := by
  have h : 0 ≤ bits BinOp.andNot IntKind.u64 (x : Int) (IntKind.u64.wrap (2 ^ r)) ∧ bits BinOp.andNot IntKind.u64 (x : Int) (IntKind.u64.wrap (2 ^ r)) ≤ 18446744073709551615 := bits_within _ .u64 _ _
  unfold clrW
  generalize bits BinOp.andNot IntKind.u64 (x : Int) (IntKind.u64.wrap (2 ^ r)) = z at *
  omega

set_option maxHeartbeats 2000000 in
theorem discount_no (tb m : Nat) (a : Option Addr) (K N : Int) (S : ByteArray) (O : Int) (w : World) (hN : Flo.U64 N) (htb : tb < w.heap.size) (h8 : w.cell? ⟨tb, 8, none⟩ = some (.slice a m m)) (hm : m ≤ 1099511627776) (hb : bitB m K N = false) :
    Calls Tryz.prog 77 #[.pointer (some ⟨tb, 0, none⟩), .agg #[.int .i64 K, .int .u64 N, .string S, .int .i64 O]] w fun e w' => e = .returned (.tuple #[]) ∧ Below w.heap.size w w' := by
  have hb0 : Below w.heap.size w (w.alloc (.cells #[.int .i64 K, .int .u64 N, .string S, .int .i64 O] 37)) := (Below.refl _ _).alloc (Nat.le_refl _) _
  have HF := hbit_any tb m m a K N S O (w.alloc (.cells #[.int .i64 K, .int .u64 N, .string S, .int .i64 O] 37)) hN (by simp; omega) ((hb0.cell htb).trans h8) hm
  rw [hb] at HF
  generalize bitN m K N = at_ at *
  have HB : Hid (Below w.heap.size w (w.alloc (.cells #[.int .i64 K, .int .u64 N, .string S, .int .i64 O] 37))) := hb0
  clear hb0 hb
  go_enter Tryz.func77, Tryz.ntmps77
  go_wp2_with fail
  refine HF.mono ?_
  rintro e w1 ⟨rfl, hb1⟩
  have HB1 : Hid (Below w.heap.size w w1) := HB.out.trans (hb1.mono (by simp))
  clear HF hb1 HB
  go_wp2
  refine bodyPost_ret (results_none rfl _ _ _) rfl ?_
  exact ⟨rfl, HB1.out⟩

set_option maxHeartbeats 2000000 in
theorem discount_put (tb c m s : Nat) (W : Nat → Nat) (K N : Int) (S : ByteArray) (O : Int) (w : World) (hN : Flo.U64 N) (htb : tb < w.heap.size) (hc : c < w.heap.size) (htc : tb ≠ c) (h8 : w.cell? ⟨tb, 8, none⟩ = some (.slice (some ⟨c, 0, none⟩) m m)) (h9 : w.cell? ⟨tb, 9, none⟩ = some (.int .i64 (s : Int))) (hm : m ≤ 1099511627776)
    (hb : bitB m K N = true) (hat : bitN m K N < m * 64) (hW : Ws w c m W) (hz : ∀ i, w.frozen? ⟨c, i, none⟩ = false) (hz9 : w.frozen? ⟨tb, 9, none⟩ = false) :
    Calls Tryz.prog 77 #[.pointer (some ⟨tb, 0, none⟩), .agg #[.int .i64 K, .int .u64 N, .string S, .int .i64 O]] w fun e w' => e = .returned (.tuple #[]) ∧
      Wr [(c, bitN m K N / 64), (tb, 9)] w w' ∧ Ws w' c m (setW W (bitN m K N / 64) (clrW (W (bitN m K N / 64)) (bitN m K N % 64))) ∧
      w'.cell? ⟨tb, 9, none⟩ = some (.int .i64 ((min s (bitN m K N) : Nat) : Int)) := by
  have hb0 : Below w.heap.size w (w.alloc (.cells #[.int .i64 K, .int .u64 N, .string S, .int .i64 O] 37)) := (Below.refl _ _).alloc (Nat.le_refl _) _
  have HF := hbit_any tb m m (some ⟨c, 0, none⟩) K N S O (w.alloc (.cells #[.int .i64 K, .int .u64 N, .string S, .int .i64 O] 37)) hN (by simp; omega) ((hb0.cell htb).trans h8) hm
  rw [hb] at HF
  generalize bitN m K N = p at *
  have HB : Hid (Below w.heap.size w (w.alloc (.cells #[.int .i64 K, .int .u64 N, .string S, .int .i64 O] 37))) := hb0
  have hi : p / 64 < m := by omega
  have hq : (p : Int) / 64 = ((p / 64 : Nat) : Int) := by omega
  have hr : (p : Int) % 64 = ((p % 64 : Nat) : Int) := by omega
  have hr2 : p % 64 < 64 := by omega
  generalize p / 64 = i at *
  generalize p % 64 = r at *
  obtain ⟨v, hv⟩ : ∃ v, v = clrW (W i) r := ⟨_, rfl⟩
  obtain ⟨W', hW'⟩ : ∃ W', W' = setW W i v := ⟨_, rfl⟩
  rw [← hv, ← hW']
  obtain ⟨s', hs'⟩ : ∃ s', s' = min s p := ⟨_, rfl⟩
  rw [← hs']
  have HS' : Hid (s' = min s p) := hs'
  have HV : Hid (v = clrW (W i) r ∧ W' = setW W i v) := ⟨hv, hW'⟩
  have HWs : Hid (Ws w c m W) := hW
  have HZ : Hid (∀ i, w.frozen? ⟨c, i, none⟩ = false) := hz
  clear hb0 hb hv hW' hW hz hs'
  go_enter Tryz.func77, Tryz.ntmps77
  go_wp2_with fail
  refine HF.mono ?_
  rintro e w1 ⟨rfl, hb1⟩
  have HB1 : Hid (Below w.heap.size w w1) := HB.out.trans (hb1.mono (by simp))
  obtain ⟨w0, w2⟩ := HWs.out i hi
  have d8 : w1.cell? ⟨tb, 8, none⟩ = some (.slice (some ⟨c, 0, none⟩) m m) := (HB1.out.cell htb).trans h8
  have d2 : w1.cell? ⟨c, i, none⟩ = some (.int .u64 (W i : Int)) := (HB1.out.cell hc).trans w2
  have d3 : w1.frozen? ⟨c, i, none⟩ = false := (HB1.out.frozen hc).trans (HZ.out i)
  obtain ⟨o1, o2⟩ := clr_bit (W i) r
  rw [← HV.out.1] at o1 o2
  clear HF hb1 HB w2
  go_wp2_with fail
  go_region
  have HW1 : Hid (Ws w1 c m W) := fun j hj => ⟨(HWs.out j hj).1, (HB1.out.cell hc).trans (HWs.out j hj).2⟩
  have HWr : Hid (Wr [(c, i)] w (w1.setCell ⟨c, i, none⟩ (.int .u64 (v : Int))).drew) := (((Wr.of_below HB1.out).trans (Wr.set w1 c i _)).trans (Wr.drew _)).more (by simp)
  have HW2 : Hid (Ws (w1.setCell ⟨c, i, none⟩ (.int .u64 (v : Int))).drew c m W') := by
    have := HW1.out.set hi o2
    rw [← HV.out.2] at this
    exact this
  generalize (w1.setCell ⟨c, i, none⟩ (.int .u64 (v : Int))).drew = w5 at HWr HW2 ⊢
  have f8 : w5.cell? ⟨tb, 8, none⟩ = some (.slice (some ⟨c, 0, none⟩) m m) := HWr.out.cell (by simp; omega) h8
  have f9 : w5.cell? ⟨tb, 9, none⟩ = some (.int .i64 (s : Int)) := HWr.out.cell (by simp; omega) h9
  have fz : w5.frozen? ⟨tb, 9, none⟩ = false := (HWr.out.2.1 _ _ htb).trans hz9
  clear d8 d2 d3 o1 o2 HW1 hq hr
  by_cases hps : s < p
  · have HS2 : Hid (s' = s) := by have := HS'.out; show s' = s; omega
    clear HS'
    go_wp2
    go_end0
    refine ⟨rfl, (HWr.out.trans (Wr.set _ tb 9 _)).more (by simp), fun j hj => ⟨(HW2.out j hj).1, ?_⟩, ?_⟩
    · rw [World.cell?_setCell_other _ _ _ _ (by simp <;> omega)]; exact (HW2.out j hj).2
    · rw [HS2.out]; exact World.cell?_setCell_same _ _ _ f9
  · have HS2 : Hid (s' = p) := by have := HS'.out; show s' = p; omega
    clear HS'
    rcases Nat.lt_or_ge p s with hlt | hge
    · go_wp2
      go_end0
      refine ⟨rfl, (HWr.out.trans (Wr.set _ tb 9 _)).more (by simp), fun j hj => ⟨(HW2.out j hj).1, ?_⟩, ?_⟩
      · rw [World.cell?_setCell_other _ _ _ _ (by simp <;> omega)]; exact (HW2.out j hj).2
      · rw [HS2.out]; exact World.cell?_setCell_same _ _ _ f9
    · have hps2 : p = s := by omega
      subst hps2
      clear hge hps
      go_wp2
      go_end0
      refine ⟨rfl, (HWr.out.trans (Wr.set _ tb 9 _)).more (by simp), fun j hj => ⟨(HW2.out j hj).1, ?_⟩, ?_⟩
      · rw [World.cell?_setCell_other _ _ _ _ (by simp <;> omega)]; exact (HW2.out j hj).2
      · rw [HS2.out]; exact World.cell?_setCell_same _ _ _ f9
end Go.Proofs.YthmocdabakkfhaaGreatDoor

/-
  Layer 9: count and discount of any key.
-/
namespace Go.Proofs.YthmocdabakkfhaaGreatDoor
set_option maxRecDepth 100000
open Go.RowKit

theorem bitN_lt {m : Nat} {K N : Int} (h : bitB m K N = true) : bitN m K N < m * 64 := by
  have h2 := of_decide_eq_true (by unfold bitB at h; exact h)
  unfold bitN
  rw [if_pos h]
  omega
/-- The words and the size when a key has come, when one has gone. -/
def cntW (m : Nat) (W : Nat → Nat) (K N : Int) : Nat → Nat := if bitB m K N then setW W (bitN m K N / 64) (W (bitN m K N / 64) ||| 2 ^ (bitN m K N % 64)) else W
def cntS (m : Nat) (W : Nat → Nat) (s : Nat) (K N : Int) : Nat := if bitB m K N then (if bitN m K N = s then gapN (cntW m W K N) m s else s) else s
def disW (m : Nat) (W : Nat → Nat) (K N : Int) : Nat → Nat := if bitB m K N then setW W (bitN m K N / 64) (clrW (W (bitN m K N / 64)) (bitN m K N % 64)) else W
def disS (m s : Nat) (K N : Int) : Nat := if bitB m K N then min s (bitN m K N) else s

/-- What is counted: m words in the block c, and the size. -/
structure Ct (w : World) (tb c m : Nat) (W : Nat → Nat) (s : Nat) : Prop where
  tlt : tb < w.heap.size
  clt : c < w.heap.size
  ne : tb ≠ c
  one : c ≠ 1
  few : m ≤ 1099511627776
  row : w.cell? ⟨tb, 8, none⟩ = some (.slice (some ⟨c, 0, none⟩) m m)
  size : w.cell? ⟨tb, 9, none⟩ = some (.int .i64 (s : Int))
  fit : s ≤ m * 64
  words : Ws w c m W
  wfree : ∀ i, w.frozen? ⟨c, i, none⟩ = false
  sfree : w.frozen? ⟨tb, 9, none⟩ = false

theorem count_any (tb c m s : Nat) (W : Nat → Nat) (K N : Int) (S : ByteArray) (O : Int) (w : World) (hN : Flo.U64 N) (h : Ct w tb c m W s) (hT : Db w) :
    Calls Tryz.prog 89 #[.pointer (some ⟨tb, 0, none⟩), .agg #[.int .i64 K, .int .u64 N, .string S, .int .i64 O]] w fun e w' => e = .returned (.tuple #[]) ∧
      Wr [(c, bitN m K N / 64), (tb, 9)] w w' ∧ Ws w' c m (cntW m W K N) ∧ w'.cell? ⟨tb, 9, none⟩ = some (.int .i64 ((cntS m W s K N : Nat) : Int)) := by
  cases hb : bitB m K N with
  | true =>
    have e1 : cntW m W K N = setW W (bitN m K N / 64) (W (bitN m K N / 64) ||| 2 ^ (bitN m K N % 64)) := by unfold cntW; rw [if_pos hb]
    have e2 : cntS m W s K N = if bitN m K N = s then gapN (cntW m W K N) m s else s := by unfold cntS; rw [if_pos hb]
    rw [e2, e1]
    exact count_put tb c m s W K N S O w hN h.tlt h.clt h.ne h.row h.size h.few h.fit hb (bitN_lt hb) h.words h.wfree h.sfree hT h.one
  | false =>
    have e1 : cntW m W K N = W := by unfold cntW; rw [if_neg (by rw [hb]; decide)]
    have e2 : cntS m W s K N = s := by unfold cntS; rw [if_neg (by rw [hb]; decide)]
    rw [e2, e1]
    refine (count_no tb m _ K N S O w hN h.tlt h.row h.few hb).mono ?_
    rintro e w' ⟨rfl, b⟩
    exact ⟨rfl, (Wr.of_below b).more (by simp), fun j hj => ⟨(h.words j hj).1, (b.cell h.clt).trans (h.words j hj).2⟩, (b.cell h.tlt).trans h.size⟩

theorem discount_any (tb c m s : Nat) (W : Nat → Nat) (K N : Int) (S : ByteArray) (O : Int) (w : World) (hN : Flo.U64 N) (h : Ct w tb c m W s) :
    Calls Tryz.prog 77 #[.pointer (some ⟨tb, 0, none⟩), .agg #[.int .i64 K, .int .u64 N, .string S, .int .i64 O]] w fun e w' => e = .returned (.tuple #[]) ∧
      Wr [(c, bitN m K N / 64), (tb, 9)] w w' ∧ Ws w' c m (disW m W K N) ∧ w'.cell? ⟨tb, 9, none⟩ = some (.int .i64 ((disS m s K N : Nat) : Int)) := by
  cases hb : bitB m K N with
  | true =>
    have e1 : disW m W K N = setW W (bitN m K N / 64) (clrW (W (bitN m K N / 64)) (bitN m K N % 64)) := by unfold disW; rw [if_pos hb]
    have e2 : disS m s K N = min s (bitN m K N) := by unfold disS; rw [if_pos hb]
    rw [e2, e1]
    exact discount_put tb c m s W K N S O w hN h.tlt h.clt h.ne h.row h.size h.few hb (bitN_lt hb) h.words h.wfree h.sfree
  | false =>
    have e1 : disW m W K N = W := by unfold disW; rw [if_neg (by rw [hb]; decide)]
    have e2 : disS m s K N = s := by unfold disS; rw [if_neg (by rw [hb]; decide)]
    rw [e2, e1]
    refine (discount_no tb m _ K N S O w hN h.tlt h.row h.few hb).mono ?_
    rintro e w' ⟨rfl, b⟩
    exact ⟨rfl, (Wr.of_below b).more (by simp), fun j hj => ⟨(h.words j hj).1, (b.cell h.clt).trans (h.words j hj).2⟩, (b.cell h.tlt).trans h.size⟩
end Go.Proofs.YthmocdabakkfhaaGreatDoor
