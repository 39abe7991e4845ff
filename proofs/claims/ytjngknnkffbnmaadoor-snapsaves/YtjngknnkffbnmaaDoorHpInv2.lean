/-
  A region that draws its order, the frame a letter.
-/
import Derived.Test.YtjngknnkffbnmaaDoorHpInv
namespace Go.Proofs.YtjngknnkffbnmaaDoor
set_option maxRecDepth 100000

/-! ### the same, the frame a letter -/
theorem eval_put_ne (a : Act) {d t : Nat} (v : Value) (h : d ≠ t) : (a.put (some d) v).eval (.tmp t) = a.eval (.tmp t) := by
  show (a.tmps.setIfInBounds d v).getD t undef = a.tmps.getD t undef
  simp [Array.getElem?_setIfInBounds_ne h]
theorem eval_put_eq (a : Act) {d : Nat} (v : Value) (h : d < a.tmps.size) : (a.put (some d) v).eval (.tmp d) = v := by
  show (a.tmps.setIfInBounds d v).getD d undef = v
  simp [h]
theorem size_put (a : Act) (d : Nat) (v : Value) : (a.put (some d) v).tmps.size = a.tmps.size := by
  show (a.tmps.setIfInBounds d v).size = _
  simp
theorem put_put (a : Act) (d : Nat) (u v : Value) : (a.put (some d) u).put (some d) v = a.put (some d) v := by
  unfold Act.put
  simp only
  congr 1
  apply Array.ext_getElem?
  intro i
  by_cases c : d = i
  · subst c
    rcases Nat.lt_or_ge d a.tmps.size with h | h
    · simp [h]
    · simp [h]
  · rw [Array.getElem?_setIfInBounds_ne c, Array.getElem?_setIfInBounds_ne c, Array.getElem?_setIfInBounds_ne c]
theorem put_swap (a : Act) {d e : Nat} (u v : Value) (h : d ≠ e) : (a.put (some d) u).put (some e) v = (a.put (some e) v).put (some d) u := by
  unfold Act.put
  simp only
  congr 1
  apply Array.ext_getElem?
  intro i
  by_cases c : d = i
  · subst c
    rw [Array.getElem?_setIfInBounds_ne (fun q => h q.symm)]
    rcases Nat.lt_or_ge d a.tmps.size with q | q
    · simp [q]
    · simp [q]
  · rw [Array.getElem?_setIfInBounds_ne c]
    by_cases c2 : e = i
    · subst c2
      rcases Nat.lt_or_ge e a.tmps.size with q | q
      · simp [q]
      · simp [q]
    · rw [Array.getElem?_setIfInBounds_ne c2, Array.getElem?_setIfInBounds_ne c2, Array.getElem?_setIfInBounds_ne c]
theorem puts_out : ∀ (ds : List Nat) (a : Act) (vs : List Value) (t : Nat), t ∉ ds → (puts a ds vs).eval (.tmp t) = a.eval (.tmp t)
  | [], _, _, _, _ => by unfold puts; rfl
  | _ :: _, _, [], _, _ => by unfold puts; rfl
  | d :: ds, a, v :: vs, t, h => by
    show (puts (a.put (some d) v) ds vs).eval (.tmp t) = _
    rw [puts_out ds _ vs t (fun c => h (List.mem_cons_of_mem _ c)), eval_put_ne a v (fun c => h (by rw [c]; exact List.mem_cons_self))]
theorem puts_in : ∀ (ds : List Nat) (a : Act) (vs : List Value) (p d : Nat) (v : Value), ds.Nodup → (∀ x ∈ ds, x < a.tmps.size) → ds[p]? = some d → vs[p]? = some v → (puts a ds vs).eval (.tmp d) = v
  | [], _, _, p, _, _, _, _, h, _ => by simp at h
  | _ :: _, _, [], p, _, _, _, _, _, h => by simp at h
  | e :: ds, a, u :: vs, 0, d, v, hn, hs, hd, hv => by
    simp only [List.getElem?_cons_zero, Option.some.injEq] at hd hv
    subst hd; subst hv
    show (puts (a.put (some e) u) ds vs).eval (.tmp e) = u
    rw [puts_out ds _ vs e (List.nodup_cons.1 hn).1]
    exact eval_put_eq a u (hs e List.mem_cons_self)
  | e :: ds, a, u :: vs, p + 1, d, v, hn, hs, hd, hv => by
    rw [List.getElem?_cons_succ] at hd hv
    show (puts (a.put (some e) u) ds vs).eval (.tmp d) = v
    exact puts_in ds _ vs p d v (List.nodup_cons.1 hn).2 (fun x hx => by rw [size_put]; exact hs x (List.mem_cons_of_mem _ hx)) hd hv
theorem puts_far : ∀ (ds : List Nat) (a : Act) (vs : List Value) (d : Nat) (v : Value), d ∉ ds → (puts a ds vs).put (some d) v = puts (a.put (some d) v) ds vs
  | [], _, _, _, _, _ => by unfold puts; rfl
  | _ :: _, _, [], _, _, _ => by unfold puts; rfl
  | e :: ds, a, u :: vs, d, v, h => by
    show (puts (a.put (some e) u) ds vs).put (some d) v = puts ((a.put (some d) v).put (some e) u) ds vs
    rw [puts_far ds _ vs d v (fun c => h (List.mem_cons_of_mem _ c)), put_swap a u v (fun c => h (by rw [← c]; exact List.mem_cons_self))]
theorem puts_put : ∀ (ds : List Nat) (a : Act) (vs : List Value) (p d : Nat) (v : Value), ds.Nodup → ds[p]? = some d → vs.length = ds.length → (puts a ds vs).put (some d) v = puts a ds (vs.set p v)
  | [], _, _, p, _, _, _, h, _ => by simp at h
  | _ :: _, _, [], p, _, _, _, _, h => by simp at h
  | e :: ds, a, u :: vs, 0, d, v, hn, hd, hl => by
    simp only [List.getElem?_cons_zero, Option.some.injEq] at hd
    subst hd
    show (puts (a.put (some e) u) ds vs).put (some e) v = puts (a.put (some e) v) ds vs
    rw [puts_far ds _ vs e v (List.nodup_cons.1 hn).1, put_put]
  | e :: ds, a, u :: vs, p + 1, d, v, hn, hd, hl => by
    rw [List.getElem?_cons_succ] at hd
    show (puts (a.put (some e) u) ds vs).put (some d) v = puts (a.put (some e) u) ds (vs.set p v)
    exact puts_put ds _ vs p d v (List.nodup_cons.1 hn).2 hd (by simpa using hl)

/-- One operation, the frame a letter: what its slots hold is handed on. -/
def StepAt2 (P : Program) (ops : Array Oper) (Q : Exit → Act → World → Prop) (a : Act) (ds : List Nat) (J : (Nat → Bool) → List Value → World → Prop) (i : Nat) (o : Oper) : Prop :=
  ∀ (A : Act) (L : Nat → Bool) (vs : List Value) (w : World), (∀ (p d : Nat) (v : Value), ds[p]? = some d → vs[p]? = some v → A.eval (.tmp d) = v) → (∀ t : Nat, t ∉ ds → A.eval (.tmp t) = a.eval (.tmp t)) → J L vs w → L i = false → (∀ e ∈ o.after, Region.binds .any e = true → L e.on = true) →
    ∀ K' : Act → World → Prop, (∀ (p d : Nat) (v : Value) (w' : World), ds[p]? = some d → J (Later L i) (vs.set p v) w' → K' (A.put (some d) v) w') → (∀ w', J (Later L i) vs w' → K' A w') → if Region.wanted o (yielded ops A.tmps) = true then Oper.wp P o A w K' Q else K' (A.put o.dst undef) w
def StepAll2 (P : Program) (ops : Array Oper) (Q : Exit → Act → World → Prop) (a : Act) (ds : List Nat) (J : (Nat → Bool) → List Value → World → Prop) : Nat → List Oper → Prop
  | _, [] => True
  | i, o :: l => StepAt2 P ops Q a ds J i o ∧ StepAll2 P ops Q a ds J (i + 1) l
theorem StepAll2.to {P : Program} {ops : Array Oper} {Q : Exit → Act → World → Prop} {a : Act} {ds : List Nat} {J : (Nat → Bool) → List Value → World → Prop} (hn : ds.Nodup) (hs : ∀ x ∈ ds, x < a.tmps.size) : ∀ {l : List Oper} {k : Nat}, StepAll2 P ops Q a ds J k l → StepAll P ops Q a ds (fun L vs w => vs.length = ds.length ∧ J L vs w) k l
  | [], _, _ => trivial
  | _ :: _, _, h => ⟨fun L vs w hJ hL hd K' hK => h.1 (puts a ds vs) L vs w (fun p d v h1 h2 => puts_in ds a vs p d v hn hs h1 h2) (fun t ht => puts_out ds a vs t ht) hJ.2 hL hd K'
      (fun p d v w' h1 h2 => by
        rw [puts_put ds a vs p d v hn h1 hJ.1]
        exact hK _ _ ⟨by rw [List.length_set]; exact hJ.1, h2⟩)
      (fun w' h2 => hK _ _ ⟨hJ.1, h2⟩), h.2.to hn hs⟩
theorem wp_region_inv2 {P : Program} {id : Nat} {l : List Oper} {Q : Exit → Act → World → Prop} {a : Act} {w : World} (hm : P.follows .mixedOrders = true) (ds : List Nat) (J : (Nat → Bool) → List Value → World → Prop)
    (hdag : dagL 0 l = true) (hn : ds.Nodup) (hs : ∀ x ∈ ds, x < a.tmps.size) (h0 : J (fun _ => false) (slotsOf a ds) w.drew) (hstep : StepAll2 P l.toArray Q a ds J 0 l) (hend : ∀ L vs w', (∀ i, i < l.length → L i = true) → J L vs w' → Q .normal (puts a ds vs) w') :
    (Code.region id l.toArray true).wp P Q a w :=
  wp_region_inv hm ds (fun L vs w => vs.length = ds.length ∧ J L vs w) hdag ⟨by simp [slotsOf], h0⟩ (hstep.to hn hs) (fun L vs w' hl hJ => hend L vs w' hl hJ.2)

end Go.Proofs.YtjngknnkffbnmaaDoor
