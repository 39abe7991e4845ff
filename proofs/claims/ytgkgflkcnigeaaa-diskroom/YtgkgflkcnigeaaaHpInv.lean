/-
  A region that draws its order: what holds whatever has come up so far, shown once for each operation.
-/
import Derived.RegionTactic
import Derived.Deep.AppendLies
import Derived.Laws.OwnMore
namespace Go.Proofs.Ytgkgflkcnigeaaa
set_option maxRecDepth 100000

/-- Behind the operation i. -/
def Later (L : Nat → Bool) (i : Nat) : Nat → Bool := fun j => if j = i then true else L j

theorem miss_set : ∀ (l : List Bool) (i : Nat), l[i]? = some false → ((l.set i true).filter (! ·)).length + 1 = (l.filter (! ·)).length
  | [], i, h => by simp at h
  | b :: l, 0, h => by
    simp only [List.getElem?_cons_zero, Option.some.injEq] at h
    subst h
    simp
  | b :: l, i + 1, h => by
    rw [List.getElem?_cons_succ] at h
    have := miss_set l i h
    cases b <;> simp <;> omega

theorem wpAny_inv {P : Program} {md : Region.Mode} {ops : Array Oper} {Q : Exit → Act → World → Prop} {J : (Nat → Bool) → Act → World → Prop}
    (hdag : ∀ i o, ops[i]? = some o → ∀ e ∈ o.after, Region.binds md e = true → e.on < i)
    (hstep : ∀ L a w i o, J L a w → ops[i]? = some o → L i = false → (∀ e ∈ o.after, Region.binds md e = true → L e.on = true) → wpOp P ops Q i (J (Later L i)) a w)
    (hend : ∀ L a w, (∀ i, i < ops.size → L i = true) → J L a w → Q .normal a w) :
    ∀ (fuel : Nat) (listed : Array Bool) (a : Act) (w : World), listed.size = ops.size → (listed.toList.filter (! ·)).length ≤ fuel → J (fun j => listed.getD j false) a w → wpAny P md ops Q fuel listed a w := by
  have hall : ∀ (listed : Array Bool), listed.size = ops.size → Region.ready md ops listed = [] → ∀ i, i < ops.size → listed.getD i false = true := by
    intro listed hs hr i
    induction i using Nat.strongRecOn with
    | _ i ih =>
      intro hi
      cases hc : listed.getD i false with
      | true => rfl
      | false =>
        exfalso
        have hm : i ∈ Region.ready md ops listed := by
          rw [mem_ready]
          refine ⟨?_, ops[i], by simp [hi], fun e he hb => ?_⟩
          · have : i < listed.size := by omega
            simp [this] at hc ⊢
            exact hc
          · have hlt := hdag i ops[i] (by simp [hi]) e he hb
            exact ih e.on hlt (by omega)
        rw [hr] at hm
        cases hm
  intro fuel
  induction fuel with
  | zero =>
    intro listed a w hs hn hJ
    have ht : ∀ i, i < ops.size → listed.getD i false = true := by
      intro i hi
      have h0 : (listed.toList.filter (! ·)) = [] := List.length_eq_zero_iff.1 (by omega)
      rw [List.filter_eq_nil_iff] at h0
      have hi2 : i < listed.size := by omega
      have := h0 listed[i] (by simp)
      simp [hi2]
      simpa using this
    refine ⟨?_, hend _ a w ht hJ⟩
    unfold Region.ready
    rw [List.filter_eq_nil_iff]
    intro i hi
    rw [List.mem_range] at hi
    have := ht i hi
    have hi2 : i < listed.size := by omega
    simp [hi2] at this ⊢
    intro h
    rw [this] at h
    cases h
  | succ fuel ih =>
    intro listed a w hs hn hJ
    refine ⟨fun hr => hend _ a w (hall listed hs hr) hJ, fun i hi => ?_⟩
    obtain ⟨h0, o, ho, hdep⟩ := mem_ready.1 hi
    have hlt : i < ops.size := (Array.getElem?_eq_some_iff.1 ho).1
    have hlt2 : i < listed.size := by omega
    have hLi : listed.getD i false = false := by simp [hlt2] at h0 ⊢; exact h0
    refine wpOp_mono (fun a' w' hJ' => ?_) (hstep _ a w i o hJ ho hLi hdep)
    refine ih _ a' w' (by simpa using hs) ?_ ?_
    · have := miss_set listed.toList i (by simp [hlt2] at h0 ⊢; exact h0)
      rw [Array.toList_setIfInBounds]
      omega
    · have e : (fun j => (listed.setIfInBounds i true).getD j false) = Later (fun j => listed.getD j false) i := by
        funext j
        unfold Later
        by_cases c : j = i
        · subst c
          simp [hlt2]
        · rw [if_neg c, getD_set_ne false (fun h => c h.symm)]
      rw [e]
      exact hJ'

/-- Values laid into slots. -/
def puts (a : Act) : List Nat → List Value → Act
  | d :: ds, v :: vs => puts (a.put (some d) v) ds vs
  | _, _ => a
def slotsOf (a : Act) (ds : List Nat) : List Value := ds.map fun d => a.tmps.getD d undef
theorem put_self (a : Act) (d : Nat) : a.put (some d) (a.tmps.getD d undef) = a := by
  unfold Act.put
  simp only
  congr 1
  apply Array.ext_getElem?
  intro i
  by_cases c : d = i
  · subst c
    rcases Nat.lt_or_ge d a.tmps.size with h | h
    · simp [h]
    · simp [h]
  · rw [Array.getElem?_setIfInBounds_ne c]
theorem puts_self (a : Act) : ∀ ds : List Nat, puts a ds (slotsOf a ds) = a
  | [] => rfl
  | d :: ds => by
    show puts (a.put (some d) (a.tmps.getD d undef)) ds (slotsOf a ds) = a
    rw [put_self]
    exact puts_self a ds

/-- One operation, whatever has come up so far. -/
def StepAt (P : Program) (ops : Array Oper) (Q : Exit → Act → World → Prop) (a : Act) (ds : List Nat) (J : (Nat → Bool) → List Value → World → Prop) (i : Nat) (o : Oper) : Prop :=
  ∀ (L : Nat → Bool) (vs : List Value) (w : World), J L vs w → L i = false → (∀ e ∈ o.after, Region.binds .any e = true → L e.on = true) →
    ∀ K' : Act → World → Prop, (∀ vs' w', J (Later L i) vs' w' → K' (puts a ds vs') w') → if Region.wanted o (yielded ops (puts a ds vs).tmps) = true then Oper.wp P o (puts a ds vs) w K' Q else K' ((puts a ds vs).put o.dst undef) w
def StepAll (P : Program) (ops : Array Oper) (Q : Exit → Act → World → Prop) (a : Act) (ds : List Nat) (J : (Nat → Bool) → List Value → World → Prop) : Nat → List Oper → Prop
  | _, [] => True
  | i, o :: l => StepAt P ops Q a ds J i o ∧ StepAll P ops Q a ds J (i + 1) l
theorem StepAll.get {P : Program} {ops : Array Oper} {Q : Exit → Act → World → Prop} {a : Act} {ds : List Nat} {J : (Nat → Bool) → List Value → World → Prop} : ∀ {l : List Oper} {k : Nat}, StepAll P ops Q a ds J k l → ∀ {i : Nat} {o : Oper}, l[i]? = some o → StepAt P ops Q a ds J (k + i) o
  | [], _, _, i, o, ho => by simp at ho
  | p :: l, k, h, 0, o, ho => by
    simp only [List.getElem?_cons_zero, Option.some.injEq] at ho
    subst ho
    exact h.1
  | p :: l, k, h, i + 1, o, ho => by
    rw [List.getElem?_cons_succ] at ho
    have := h.2.get ho
    rw [show k + (i + 1) = k + 1 + i by omega]
    exact this
def dagL : Nat → List Oper → Bool
  | _, [] => true
  | i, o :: l => (o.after.all fun e => decide (e.on < i)) && dagL (i + 1) l
theorem dagL.get : ∀ {l : List Oper} {k : Nat}, dagL k l = true → ∀ {i : Nat} {o : Oper}, l[i]? = some o → ∀ e ∈ o.after, e.on < k + i
  | [], _, _, i, o, ho => by simp at ho
  | p :: l, k, h, 0, o, ho => by
    simp only [List.getElem?_cons_zero, Option.some.injEq] at ho
    subst ho
    unfold dagL at h
    rw [Bool.and_eq_true] at h
    intro e he
    have := Array.all_eq_true_iff_forall_mem.1 h.1 e he
    simpa using this
  | p :: l, k, h, i + 1, o, ho => by
    rw [List.getElem?_cons_succ] at ho
    unfold dagL at h
    rw [Bool.and_eq_true] at h
    intro e he
    have := dagL.get h.2 ho e he
    omega

theorem wp_region_inv {P : Program} {id : Nat} {l : List Oper} {Q : Exit → Act → World → Prop} {a : Act} {w : World} (hm : P.follows .mixedOrders = true) (ds : List Nat) (J : (Nat → Bool) → List Value → World → Prop)
    (hdag : dagL 0 l = true) (h0 : J (fun _ => false) (slotsOf a ds) w.drew) (hstep : StepAll P l.toArray Q a ds J 0 l) (hend : ∀ L vs w', (∀ i, i < l.length → L i = true) → J L vs w' → Q .normal (puts a ds vs) w') :
    (Code.region id l.toArray true).wp P Q a w := by
  refine wp_region_any hm ?_
  refine wpAny_inv (J := fun L a' w' => ∃ vs, a' = puts a ds vs ∧ J L vs w') ?_ ?_ ?_ _ _ a _ (by simp) (by simp) ⟨_, (puts_self a ds).symm, ?_⟩
  · intro i o ho e he _
    have := dagL.get hdag (i := i) (o := o) (by simpa using ho) e he
    omega
  · rintro L a' w' i o ⟨vs, rfl, hJ⟩ ho hL hdep
    refine wpOp_step ho (fun K' hK => ?_)
    have := hstep.get (i := i) (o := o) (by simpa using ho)
    rw [Nat.zero_add] at this
    exact this L vs w' hJ hL hdep K' (fun vs' w2 hj => hK _ _ ⟨vs', rfl, hj⟩)
  · rintro L a' w' hall ⟨vs, rfl, hJ⟩
    exact hend L vs w' (by simpa using hall) hJ
  · have e : (fun j => (Array.replicate l.toArray.size false).getD j false) = fun _ => false := by
      funext j
      rcases Nat.lt_or_ge j l.length with c | c
      · simp [c]
      · simp [c]
    rw [e]
    exact h0

/-! ### append of what can be read to a row of one's own -/

/-- A slice that can be read: m elements, with these cells. -/
def Src (w : World) (size : Nat) (v : Value) (m : Nat) (xs : List Value) : Prop :=
  (v = .slice none 0 0 ∧ m = 0 ∧ xs = []) ∨ ∃ ad c, v = .slice (some ad) m c ∧ xs.length = m * size ∧ (∀ j u, xs[j]? = some u → w.cell? (ad.add j) = some u) ∧ ∀ u ∈ xs, u.oneCell' = true

theorem owns_form {w : World} {base : Nat} {e : TypeId} {size : Nat} {v : Value} {n : Nat} {xs : List Value} (h : w.ownsRow base e size v n xs) : ∃ a c, v = .slice a n c := by
  rcases h.2 with ⟨rfl, rfl⟩ | ⟨g, cap, cur, rfl, _⟩
  · exact ⟨_, _, rfl⟩
  · exact ⟨_, _, rfl⟩
theorem wp_append_src {P : Program} (w : World) {o : Oper} {a : Act} {K : Act → World → Prop} {Q : Exit → Act → World → Prop} (s x : Operand) (t : TypeId)
    (ho : o.op = .call { callee := .builtin .append, args := #[s, x], argTypes := #[t, t] })
    (base : Nat) (e : TypeId) (i : TypeInfo) (z : Value) (size bytes : Nat) (ht : P.underlying t = some (.slice e)) (hi : P.info? e = some i) (hz : i.zero = some z)
    (hsize : i.size = size) (hby : i.bytes = bytes) (hzs : z.cells.size = size) (hsz : 0 < size)
    (v : Value) (n : Nat) (xs : List Value) (hs : a.eval s = v) (hown : w.ownsRow base e size v n xs)
    (xv : Value) (m : Nat) (news : List Value) (hx : a.eval x = xv) (hsrc : Src w size xv m news)
    (h63 : n + m ≤ maxLen) (hbytes : (n + m) * bytes ≤ 140737488355328) (hbase : base ≤ w.heap.size)
    (h : ∀ a' c' w', w'.ownsRow base e size (.slice a' (n + m) c') (n + m) (xs ++ news) → w.grownBy w' v.ownBlock → ((Value.slice a' (n + m) c').ownBlock = v.ownBlock ∨ (Value.slice a' (n + m) c').ownBlock = some w.heap.size) → K (a.put o.dst (.slice a' (n + m) c')) w') :
    Oper.wp P o a w K Q := by
  rcases hsrc with ⟨rfl, rfl, rfl⟩ | ⟨ad, c, rfl, hl, hnews, h1⟩
  · have hr := run_append_owned_none (P := P) (w := w) base t o.type e i size ht hi v n xs hown
    obtain ⟨a', c', rfl⟩ := owns_form hown
    unfold Oper.wp execOp
    simp only [ho, resolve, invoke, builtin, Sem.run_bind, Sem.run_pure, Result.andThen_ok, List.map_toArray, List.map_cons, List.map_nil, hs, hx, hr]
    exact h a' c' w (by simpa using hown) ⟨rfl, rfl, rfl, Nat.le_refl _, fun _ _ _ => rfl⟩ (Or.inl rfl)
  · obtain ⟨v', w', hr, h2, h3, _, h5⟩ := run_append_own_at (P := P) w base t o.type e i z size bytes ht hi hz hsize hby hzs hsz v n xs hown ad m c news hl hnews h1 h63 hbytes hbase
    obtain ⟨a', c', rfl⟩ := owns_form h2
    unfold Oper.wp execOp
    simp only [ho, resolve, invoke, builtin, Sem.run_bind, Sem.run_pure, Result.andThen_ok, List.map_toArray, List.map_cons, List.map_nil, hs, hx, hr]
    exact h a' c' w' h2 h3 h5
theorem step_append_src {P : Program} (w : World) {ops : Array Oper} {o : Oper} {a : Act} {K : Act → World → Prop} {Q : Exit → Act → World → Prop} {E : Prop} (hgd : o.guard = none) (s x : Operand) (t : TypeId)
    (ho : o.op = .call { callee := .builtin .append, args := #[s, x], argTypes := #[t, t] })
    (base : Nat) (e : TypeId) (i : TypeInfo) (z : Value) (size bytes : Nat) (ht : P.underlying t = some (.slice e)) (hi : P.info? e = some i) (hz : i.zero = some z)
    (hsize : i.size = size) (hby : i.bytes = bytes) (hzs : z.cells.size = size) (hsz : 0 < size)
    (v : Value) (n : Nat) (xs : List Value) (hs : a.eval s = v) (hown : w.ownsRow base e size v n xs)
    (xv : Value) (m : Nat) (news : List Value) (hx : a.eval x = xv) (hsrc : Src w size xv m news)
    (h63 : n + m ≤ maxLen) (hbytes : (n + m) * bytes ≤ 140737488355328) (hbase : base ≤ w.heap.size)
    (h : ∀ a' c' w', w'.ownsRow base e size (.slice a' (n + m) c') (n + m) (xs ++ news) → w.grownBy w' v.ownBlock → ((Value.slice a' (n + m) c').ownBlock = v.ownBlock ∨ (Value.slice a' (n + m) c').ownBlock = some w.heap.size) → K (a.put o.dst (.slice a' (n + m) c')) w') :
    if Region.wanted o (yielded ops a.tmps) = true then Oper.wp P o a w K Q else E := by
  have hw : Region.wanted o (yielded ops a.tmps) = true := by simp [Region.wanted, hgd]
  rw [if_pos hw]
  exact wp_append_src w s x t ho base e i z size bytes ht hi hz hsize hby hzs hsz v n xs hs hown xv m news hx hsrc h63 hbytes hbase h
theorem wpList_append_src {P : Program} (w : World) {ops : Array Oper} {rest : List Oper} {o : Oper} {a : Act} {Q : Exit → Act → World → Prop} (hgd : o.guard = none) (s x : Operand) (t : TypeId)
    (ho : o.op = .call { callee := .builtin .append, args := #[s, x], argTypes := #[t, t] })
    (base : Nat) (e : TypeId) (i : TypeInfo) (z : Value) (size bytes : Nat) (ht : P.underlying t = some (.slice e)) (hi : P.info? e = some i) (hz : i.zero = some z)
    (hsize : i.size = size) (hby : i.bytes = bytes) (hzs : z.cells.size = size) (hsz : 0 < size)
    (v : Value) (n : Nat) (xs : List Value) (hs : a.eval s = v) (hown : w.ownsRow base e size v n xs)
    (xv : Value) (m : Nat) (news : List Value) (hx : a.eval x = xv) (hsrc : Src w size xv m news)
    (h63 : n + m ≤ maxLen) (hbytes : (n + m) * bytes ≤ 140737488355328) (hbase : base ≤ w.heap.size)
    (h : ∀ a' c' w', w'.ownsRow base e size (.slice a' (n + m) c') (n + m) (xs ++ news) → w.grownBy w' v.ownBlock → ((Value.slice a' (n + m) c').ownBlock = v.ownBlock ∨ (Value.slice a' (n + m) c').ownBlock = some w.heap.size) → wpList P ops Q rest (a.put o.dst (.slice a' (n + m) c')) w') : wpList P ops Q (o :: rest) a w :=
  wpList_plain hgd fun _ hK => wp_append_src w s x t ho base e i z size bytes ht hi hz hsize hby hzs hsz v n xs hs hown xv m news hx hsrc h63 hbytes hbase fun a' c' w' h2 h3 h4 => hK _ _ (h a' c' w' h2 h3 h4)
theorem Src.of_owns {w : World} {base : Nat} {e : TypeId} {size : Nat} {v : Value} {n : Nat} {xs : List Value} (h : w.ownsRow base e size v n xs) (h1 : ∀ u ∈ xs, u.oneCell' = true) : Src w size v n xs := by
  rcases h.2 with ⟨rfl, rfl⟩ | ⟨g, cap, cur, rfl, _⟩
  · refine Or.inl ⟨rfl, rfl, List.length_eq_zero_iff.1 (by rw [h.1]; omega)⟩
  · refine Or.inr ⟨⟨g, 0, none⟩, cap, rfl, h.1, fun j u hu => ?_, h1⟩
    have hj : j < xs.length := by
      rcases Nat.lt_or_ge j xs.length with c | c
      · exact c
      · rw [List.getElem?_eq_none c] at hu; cases hu
    have hadd : (⟨g, 0, none⟩ : Addr).add j = ⟨g, j, none⟩ := by unfold Addr.add; split <;> simp_all
    rw [hadd, h.cellAt j (by rw [← h.1]; exact hj)]
    exact hu
theorem Src.stay {w w' : World} {size : Nat} {v : Value} {n : Nat} {xs : List Value} (h : Src w size v n xs) (hc : ∀ a u, w.cell? a = some u → (∀ g, v.ownBlock = some g → a.block = g) → w'.cell? a = some u) : Src w' size v n xs := by
  rcases h with h | ⟨ad, c, rfl, h1, h2, h3⟩
  · exact Or.inl h
  · refine Or.inr ⟨ad, c, rfl, h1, fun j u hu => hc _ u (h2 j u hu) (fun g hg => ?_), h3⟩
    have e : ad.block = g := by simpa [Value.ownBlock] using hg
    unfold Addr.add
    split <;> exact e

end Go.Proofs.Ytgkgflkcnigeaaa
