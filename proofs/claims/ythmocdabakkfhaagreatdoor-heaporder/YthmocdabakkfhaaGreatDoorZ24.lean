/-
  HpFull, HpInv, HpRv, HpRu, HpSmall, HpOm
-/
import Derived.RegionTactic
import Derived.Deep.AppendLies
import Derived.Laws.OwnMore
import Derived.BigQuiet
import Derived.Test.YthmocdabakkfhaaGreatDoorZ23

/-
  Layer 9: set where there is no room.
-/
namespace Go.Proofs.YthmocdabakkfhaaGreatDoor
set_option maxRecDepth 100000
open Go.RowKit Flo

set_option maxHeartbeats 4000000 in
theorem set_full {w : World} {hb lim used i tb : Nat} {R : Value} {os : List Ob} {Z : Nat → Prop} {x : Ob} (h : Hv w hb lim used R os Z) (hi : os[i]? = some x) (ht : x.tb = some tb) (K N : Int) (S : ByteArray) (O vK vN : Int) (vS : ByteArray) (vO : Int) (hS : S.size ≤ 9223372036854775807) (hvK : vK ≠ 0) (hnone : ofKey K N S O x.es = none) (hlt : lim ≤ used) :
    Calls Tryz.prog 51 #[.pointer (some ⟨hb, 0, none⟩), .pointer (some ⟨tb, 0, none⟩), .agg #[.int .i64 K, .int .u64 N, .string S, .int .i64 O], .agg #[.int .i64 vK, .int .u64 vN, .string vS, .int .i64 vO]] w fun e w' => e = .returned (.int .i64 2) ∧ Below w.heap.size w w' := by
  have HB : Hid (Below w.heap.size w ((w.alloc (.cells #[.int .i64 K, .int .u64 N, .string S, .int .i64 O] 37)).alloc (.cells #[.int .i64 vK, .int .u64 vN, .string vS, .int .i64 vO] 37))) := ((Below.refl _ _).alloc (Nat.le_refl _) _).alloc (by simp) _
  have HH : Hid (∀ w', Calls Tryz.prog 25 #[.agg #[.int .i64 K, .int .u64 N, .string S, .int .i64 O]] w' fun e w2 => e = .returned (.int .u64 (hZ K N S O)) ∧ Below w'.heap.size w' w2) := fun w' => hash_any _ _ _ _ w' hS
  have HF : Hid (∀ w', Below w.heap.size w w' → Calls Tryz.prog 24 #[.pointer (some ⟨tb, 0, none⟩), .agg #[.int .i64 K, .int .u64 N, .string S, .int .i64 O], .int .u64 (hZ K N S O)] w' fun e w2 => e = .returned (.pointer none) ∧ Below w'.heap.size w' w2) := fun w' hb' => by
    have := tab_find (((h.below hb').ob i x hi).tab tb ht).2.1 K N S O
    rw [hnone] at this
    exact this
  have HL : Hid (∀ w', Below w.heap.size w w' → Calls Tryz.prog 49 #[.pointer (some ⟨hb, 0, none⟩)] w' fun e w2 => e = .returned (.int .i64 ((lim : Int) - used)) ∧ ∃ q, w2 = w'.drewN q) := fun w' hb' => by
    have h' := h.below hb'
    exact left_any hb lim used w' h'.c0 h'.c1 ⟨by omega, by have := h.hl; omega⟩ ⟨by omega, by have := h.hl; have := h.hu; omega⟩
  have hlt2 : ((lim : Int) - (used : Int) < 1) := by omega
  clear h hi ht hnone hlt
  generalize hZ K N S O = H at *
  go_enter Tryz.func51, Tryz.ntmps51
  go_wp2_with fail
  refine (HH.out _).mono ?_
  rintro e w1 ⟨rfl, hb1⟩
  have hk1 := keep4 (b := w.heap.size) (v0 := .int .i64 K) (v1 := .int .u64 N) (v2 := .string S) (v3 := .int .i64 O) ⟨by go_simp, by go_simp, by go_simp, by go_simp⟩ hb1
  have hv1 := keep4 (b := w.heap.size + 1) (v0 := .int .i64 vK) (v1 := .int .u64 vN) (v2 := .string vS) (v3 := .int .i64 vO) ⟨by go_simp, by go_simp, by go_simp, by go_simp⟩ hb1
  have HB1 : Hid (Below w.heap.size w w1) := HB.out.trans (hb1.mono (by simp; omega))
  obtain ⟨p0, p1, p2, p3⟩ := hk1
  have HV1 : Hid (_ ∧ _) := hv1
  have HK1 : Hid (_ ∧ _ ∧ _ ∧ _) := ⟨p0, p1, p2, p3⟩
  clear hb1 HB HH hv1
  go_wp2_with fail
  refine (HF.out _ HB1.out).mono ?_
  rintro e w2 ⟨rfl, hb2⟩
  obtain ⟨q0, q1, q2, q3⟩ := keep4 HK1.out hb2
  obtain ⟨u0, u1, u2, u3⟩ := keep4 HV1.out hb2
  have HB2 : Hid (Below w.heap.size w w2) := HB1.out.trans (hb2.mono HB1.out.size)
  clear hb2 HB1 HK1 HV1 HF p0 p1 p2 p3
  go_wp2_with fail
  refine (HL.out _ HB2.out).mono ?_
  rintro e w3 ⟨rfl, q, rfl⟩
  clear HL
  have HBD : Hid (Below w.heap.size w (w2.drewN q)) := HB2.out.trans ((hp_drewN w2 q).mono HB2.out.size)
  clear HB2
  go_wp2
  go_ret
  exact ⟨rfl, HBD.out⟩

end Go.Proofs.YthmocdabakkfhaaGreatDoor

/-
  A region that draws its order: what holds whatever has come up so far, shown once for each operation.
-/
namespace Go.Proofs.YthmocdabakkfhaaGreatDoor
set_option maxRecDepth 100000

/-- Behind the operation i. -/
def Later (L : Nat → Bool) (i : Nat) : Nat → Bool := fun j => if j = i then true else L j

theorem miss_set : ∀ (l : List Bool) (i : Nat), l[i]? = some false → ((l.set i true).filter (! ·)).length + 1 = (l.filter (! ·)).length
  | [], i, h => by simp at h
  | b :: l, 0, h => by
    simp only [List.getElem?_cons_zero, Option.some.injEq] at h
    subst h
    simp
  | b :: l, i + 1, h => by
    rw [List.getElem?_cons_succ] at h
    have := miss_set l i h
    cases b <;> simp <;> omega

theorem wpAny_inv {P : Program} {md : Region.Mode} {ops : Array Oper} {Q : Exit → Act → World → Prop} {J : (Nat → Bool) → Act → World → Prop}
    (hdag : ∀ i o, ops[i]? = some o → ∀ e ∈ o.after, Region.binds md e = true → e.on < i)
    (hstep : ∀ L a w i o, J L a w → ops[i]? = some o → L i = false → (∀ e ∈ o.after, Region.binds md e = true → L e.on = true) → wpOp P ops Q i (J (Later L i)) a w)
    (hend : ∀ L a w, (∀ i, i < ops.size → L i = true) → J L a w → Q .normal a w) :
    ∀ (fuel : Nat) (listed : Array Bool) (a : Act) (w : World), listed.size = ops.size → (listed.toList.filter (! ·)).length ≤ fuel → J (fun j => listed.getD j false) a w → wpAny P md ops Q fuel listed a w := by
  have hall : ∀ (listed : Array Bool), listed.size = ops.size → Region.ready md ops listed = [] → ∀ i, i < ops.size → listed.getD i false = true := by
    intro listed hs hr i
    induction i using Nat.strongRecOn with
    | _ i ih =>
      intro hi
      cases hc : listed.getD i false with
      | true => rfl
      | false =>
        exfalso
        have hm : i ∈ Region.ready md ops listed := by
          rw [mem_ready]
          refine ⟨?_, ops[i], by simp [hi], fun e he hb => ?_⟩
          · have : i < listed.size := by omega
            simp [this] at hc ⊢
            exact hc
          · have hlt := hdag i ops[i] (by simp [hi]) e he hb
            exact ih e.on hlt (by omega)
        rw [hr] at hm
        cases hm
  intro fuel
  induction fuel with
  | zero =>
    intro listed a w hs hn hJ
    have ht : ∀ i, i < ops.size → listed.getD i false = true := by
      intro i hi
      have h0 : (listed.toList.filter (! ·)) = [] := List.length_eq_zero_iff.1 (by omega)
      rw [List.filter_eq_nil_iff] at h0
      have hi2 : i < listed.size := by omega
      have := h0 listed[i] (by simp)
      simp [hi2]
      simpa using this
    refine ⟨?_, hend _ a w ht hJ⟩
    unfold Region.ready
    rw [List.filter_eq_nil_iff]
    intro i hi
    rw [List.mem_range] at hi
    have := ht i hi
    have hi2 : i < listed.size := by omega
    simp [hi2] at this ⊢
    intro h
    rw [this] at h
    cases h
  | succ fuel ih =>
    intro listed a w hs hn hJ
    refine ⟨fun hr => hend _ a w (hall listed hs hr) hJ, fun i hi => ?_⟩
    obtain ⟨h0, o, ho, hdep⟩ := mem_ready.1 hi
    have hlt : i < ops.size := (Array.getElem?_eq_some_iff.1 ho).1
    have hlt2 : i < listed.size := by omega
    have hLi : listed.getD i false = false := by simp [hlt2] at h0 ⊢; exact h0
    refine wpOp_mono (fun a' w' hJ' => ?_) (hstep _ a w i o hJ ho hLi hdep)
    refine ih _ a' w' (by simpa using hs) ?_ ?_
    · have := miss_set listed.toList i (by simp [hlt2] at h0 ⊢; exact h0)
      rw [Array.toList_setIfInBounds]
      omega
    · have e : (fun j => (listed.setIfInBounds i true).getD j false) = Later (fun j => listed.getD j false) i := by
        funext j
        unfold Later
        by_cases c : j = i
        · subst c
          simp [hlt2]
        · rw [if_neg c, getD_set_ne false (fun h => c h.symm)]
      rw [e]
      exact hJ'

/-- Values laid into slots. -/
def puts (a : Act) : List Nat → List Value → Act
  | d :: ds, v :: vs => puts (a.put (some d) v) ds vs
  | _, _ => a
def slotsOf (a : Act) (ds : List Nat) : List Value := ds.map fun d => a.tmps.getD d undef
theorem put_self (a : Act) (d : Nat) : a.put (some d) (a.tmps.getD d undef) = a := by
  unfold Act.put
  simp only
  congr 1
  apply Array.ext_getElem?
  intro i
  by_cases c : d = i
  · subst c
    rcases Nat.lt_or_ge d a.tmps.size with h | h
    · simp [h]
    · simp [h]
  · rw [Array.getElem?_setIfInBounds_ne c]
theorem puts_self (a : Act) : ∀ ds : List Nat, puts a ds (slotsOf a ds) = a
  | [] => rfl
  | d :: ds => by
    show puts (a.put (some d) (a.tmps.getD d undef)) ds (slotsOf a ds) = a
    rw [put_self]
    exact puts_self a ds

/-- One operation, whatever has come up so far. -/
def StepAt (P : Program) (ops : Array Oper) (Q : Exit → Act → World → Prop) (a : Act) (ds : List Nat) (J : (Nat → Bool) → List Value → World → Prop) (i : Nat) (o : Oper) : Prop :=
  ∀ (L : Nat → Bool) (vs : List Value) (w : World), J L vs w → L i = false → (∀ e ∈ o.after, Region.binds .any e = true → L e.on = true) →
    ∀ K' : Act → World → Prop, (∀ vs' w', J (Later L i) vs' w' → K' (puts a ds vs') w') → if Region.wanted o (yielded ops (puts a ds vs).tmps) = true then Oper.wp P o (puts a ds vs) w K' Q else K' ((puts a ds vs).put o.dst undef) w
def StepAll (P : Program) (ops : Array Oper) (Q : Exit → Act → World → Prop) (a : Act) (ds : List Nat) (J : (Nat → Bool) → List Value → World → Prop) : Nat → List Oper → Prop
  | _, [] => True
  | i, o :: l => StepAt P ops Q a ds J i o ∧ StepAll P ops Q a ds J (i + 1) l
theorem StepAll.get {P : Program} {ops : Array Oper} {Q : Exit → Act → World → Prop} {a : Act} {ds : List Nat} {J : (Nat → Bool) → List Value → World → Prop} : ∀ {l : List Oper} {k : Nat}, StepAll P ops Q a ds J k l → ∀ {i : Nat} {o : Oper}, l[i]? = some o → StepAt P ops Q a ds J (k + i) o
  | [], _, _, i, o, ho => by simp at ho
  | p :: l, k, h, 0, o, ho => by
    simp only [List.getElem?_cons_zero, Option.some.injEq] at ho
    subst ho
    exact h.1
  | p :: l, k, h, i + 1, o, ho => by
    rw [List.getElem?_cons_succ] at ho
    have := h.2.get ho
    rw [show k + (i + 1) = k + 1 + i by omega]
    exact this
def dagL : Nat → List Oper → Bool
  | _, [] => true
  | i, o :: l => (o.after.all fun e => decide (e.on < i)) && dagL (i + 1) l
theorem dagL.get : ∀ {l : List Oper} {k : Nat}, dagL k l = true → ∀ {i : Nat} {o : Oper}, l[i]? = some o → ∀ e ∈ o.after, e.on < k + i
  | [], _, _, i, o, ho => by simp at ho
  | p :: l, k, h, 0, o, ho => by
    simp only [List.getElem?_cons_zero, Option.some.injEq] at ho
    subst ho
    unfold dagL at h
    rw [Bool.and_eq_true] at h
    intro e he
    have := Array.all_eq_true_iff_forall_mem.1 h.1 e he
    simpa using this
  | p :: l, k, h, i + 1, o, ho => by
    rw [List.getElem?_cons_succ] at ho
    unfold dagL at h
    rw [Bool.and_eq_true] at h
    intro e he
    have := dagL.get h.2 ho e he
    omega

theorem wp_region_inv {P : Program} {id : Nat} {l : List Oper} {Q : Exit → Act → World → Prop} {a : Act} {w : World} (hm : P.follows .mixedOrders = true) (ds : List Nat) (J : (Nat → Bool) → List Value → World → Prop)
    (hdag : dagL 0 l = true) (h0 : J (fun _ => false) (slotsOf a ds) w.drew) (hstep : StepAll P l.toArray Q a ds J 0 l) (hend : ∀ L vs w', (∀ i, i < l.length → L i = true) → J L vs w' → Q .normal (puts a ds vs) w') :
    (Code.region id l.toArray true).wp P Q a w := by
  refine wp_region_any hm ?_
  refine wpAny_inv (J := fun L a' w' => ∃ vs, a' = puts a ds vs ∧ J L vs w') ?_ ?_ ?_ _ _ a _ (by simp) (by simp) ⟨_, (puts_self a ds).symm, ?_⟩
  · intro i o ho e he _
    have := dagL.get hdag (i := i) (o := o) (by simpa using ho) e he
    omega
  · rintro L a' w' i o ⟨vs, rfl, hJ⟩ ho hL hdep
    refine wpOp_step ho (fun K' hK => ?_)
    have := hstep.get (i := i) (o := o) (by simpa using ho)
    rw [Nat.zero_add] at this
    exact this L vs w' hJ hL hdep K' (fun vs' w2 hj => hK _ _ ⟨vs', rfl, hj⟩)
  · rintro L a' w' hall ⟨vs, rfl, hJ⟩
    exact hend L vs w' (by simpa using hall) hJ
  · have e : (fun j => (Array.replicate l.toArray.size false).getD j false) = fun _ => false := by
      funext j
      rcases Nat.lt_or_ge j l.length with c | c
      · simp [c]
      · simp [c]
    rw [e]
    exact h0

/-! ### append of what can be read to a row of one's own -/

/-- A slice that can be read: m elements, with these cells. -/
def Src (w : World) (size : Nat) (v : Value) (m : Nat) (xs : List Value) : Prop :=
  (v = .slice none 0 0 ∧ m = 0 ∧ xs = []) ∨ ∃ ad c, v = .slice (some ad) m c ∧ xs.length = m * size ∧ (∀ j u, xs[j]? = some u → w.cell? (ad.add j) = some u) ∧ ∀ u ∈ xs, u.oneCell' = true

theorem owns_form {w : World} {base : Nat} {e : TypeId} {size : Nat} {v : Value} {n : Nat} {xs : List Value} (h : w.ownsRow base e size v n xs) : ∃ a c, v = .slice a n c := by
  rcases h.2 with ⟨rfl, rfl⟩ | ⟨g, cap, cur, rfl, _⟩
  · exact ⟨_, _, rfl⟩
  · exact ⟨_, _, rfl⟩
theorem wp_append_src {P : Program} (w : World) {o : Oper} {a : Act} {K : Act → World → Prop} {Q : Exit → Act → World → Prop} (s x : Operand) (t : TypeId)
    (ho : o.op = .call { callee := .builtin .append, args := #[s, x], argTypes := #[t, t] })
    (base : Nat) (e : TypeId) (i : TypeInfo) (z : Value) (size bytes : Nat) (ht : P.underlying t = some (.slice e)) (hi : P.info? e = some i) (hz : i.zero = some z)
    (hsize : i.size = size) (hby : i.bytes = bytes) (hzs : z.cells.size = size) (hsz : 0 < size)
    (v : Value) (n : Nat) (xs : List Value) (hs : a.eval s = v) (hown : w.ownsRow base e size v n xs)
    (xv : Value) (m : Nat) (news : List Value) (hx : a.eval x = xv) (hsrc : Src w size xv m news)
    (h63 : n + m ≤ maxLen) (hbytes : (n + m) * bytes ≤ 140737488355328) (hbase : base ≤ w.heap.size)
    (h : ∀ a' c' w', w'.ownsRow base e size (.slice a' (n + m) c') (n + m) (xs ++ news) → w.grownBy w' v.ownBlock → ((Value.slice a' (n + m) c').ownBlock = v.ownBlock ∨ (Value.slice a' (n + m) c').ownBlock = some w.heap.size) → K (a.put o.dst (.slice a' (n + m) c')) w') :
    Oper.wp P o a w K Q := by
  rcases hsrc with ⟨rfl, rfl, rfl⟩ | ⟨ad, c, rfl, hl, hnews, h1⟩
  · have hr := run_append_owned_none (P := P) (w := w) base t o.type e i size ht hi v n xs hown
    obtain ⟨a', c', rfl⟩ := owns_form hown
    unfold Oper.wp execOp
    simp only [ho, resolve, invoke, builtin, Sem.run_bind, Sem.run_pure, Result.andThen_ok, List.map_toArray, List.map_cons, List.map_nil, hs, hx, hr]
    exact h a' c' w (by simpa using hown) ⟨rfl, rfl, rfl, Nat.le_refl _, fun _ _ _ => rfl⟩ (Or.inl rfl)
  · obtain ⟨v', w', hr, h2, h3, _, h5⟩ := run_append_own_at (P := P) w base t o.type e i z size bytes ht hi hz hsize hby hzs hsz v n xs hown ad m c news hl hnews h1 h63 hbytes hbase
    obtain ⟨a', c', rfl⟩ := owns_form h2
    unfold Oper.wp execOp
    simp only [ho, resolve, invoke, builtin, Sem.run_bind, Sem.run_pure, Result.andThen_ok, List.map_toArray, List.map_cons, List.map_nil, hs, hx, hr]
    exact h a' c' w' h2 h3 h5
theorem step_append_src {P : Program} (w : World) {ops : Array Oper} {o : Oper} {a : Act} {K : Act → World → Prop} {Q : Exit → Act → World → Prop} {E : Prop} (hgd : o.guard = none) (s x : Operand) (t : TypeId)
    (ho : o.op = .call { callee := .builtin .append, args := #[s, x], argTypes := #[t, t] })
    (base : Nat) (e : TypeId) (i : TypeInfo) (z : Value) (size bytes : Nat) (ht : P.underlying t = some (.slice e)) (hi : P.info? e = some i) (hz : i.zero = some z)
    (hsize : i.size = size) (hby : i.bytes = bytes) (hzs : z.cells.size = size) (hsz : 0 < size)
    (v : Value) (n : Nat) (xs : List Value) (hs : a.eval s = v) (hown : w.ownsRow base e size v n xs)
    (xv : Value) (m : Nat) (news : List Value) (hx : a.eval x = xv) (hsrc : Src w size xv m news)
    (h63 : n + m ≤ maxLen) (hbytes : (n + m) * bytes ≤ 140737488355328) (hbase : base ≤ w.heap.size)
    (h : ∀ a' c' w', w'.ownsRow base e size (.slice a' (n + m) c') (n + m) (xs ++ news) → w.grownBy w' v.ownBlock → ((Value.slice a' (n + m) c').ownBlock = v.ownBlock ∨ (Value.slice a' (n + m) c').ownBlock = some w.heap.size) → K (a.put o.dst (.slice a' (n + m) c')) w') :
    if Region.wanted o (yielded ops a.tmps) = true then Oper.wp P o a w K Q else E := by
  have hw : Region.wanted o (yielded ops a.tmps) = true := by simp [Region.wanted, hgd]
  rw [if_pos hw]
  exact wp_append_src w s x t ho base e i z size bytes ht hi hz hsize hby hzs hsz v n xs hs hown xv m news hx hsrc h63 hbytes hbase h
theorem wpList_append_src {P : Program} (w : World) {ops : Array Oper} {rest : List Oper} {o : Oper} {a : Act} {Q : Exit → Act → World → Prop} (hgd : o.guard = none) (s x : Operand) (t : TypeId)
    (ho : o.op = .call { callee := .builtin .append, args := #[s, x], argTypes := #[t, t] })
    (base : Nat) (e : TypeId) (i : TypeInfo) (z : Value) (size bytes : Nat) (ht : P.underlying t = some (.slice e)) (hi : P.info? e = some i) (hz : i.zero = some z)
    (hsize : i.size = size) (hby : i.bytes = bytes) (hzs : z.cells.size = size) (hsz : 0 < size)
    (v : Value) (n : Nat) (xs : List Value) (hs : a.eval s = v) (hown : w.ownsRow base e size v n xs)
    (xv : Value) (m : Nat) (news : List Value) (hx : a.eval x = xv) (hsrc : Src w size xv m news)
    (h63 : n + m ≤ maxLen) (hbytes : (n + m) * bytes ≤ 140737488355328) (hbase : base ≤ w.heap.size)
    (h : ∀ a' c' w', w'.ownsRow base e size (.slice a' (n + m) c') (n + m) (xs ++ news) → w.grownBy w' v.ownBlock → ((Value.slice a' (n + m) c').ownBlock = v.ownBlock ∨ (Value.slice a' (n + m) c').ownBlock = some w.heap.size) → wpList P ops Q rest (a.put o.dst (.slice a' (n + m) c')) w') : wpList P ops Q (o :: rest) a w :=
  wpList_plain hgd fun _ hK => wp_append_src w s x t ho base e i z size bytes ht hi hz hsize hby hzs hsz v n xs hs hown xv m news hx hsrc h63 hbytes hbase fun a' c' w' h2 h3 h4 => hK _ _ (h a' c' w' h2 h3 h4)
theorem Src.of_owns {w : World} {base : Nat} {e : TypeId} {size : Nat} {v : Value} {n : Nat} {xs : List Value} (h : w.ownsRow base e size v n xs) (h1 : ∀ u ∈ xs, u.oneCell' = true) : Src w size v n xs := by
  rcases h.2 with ⟨rfl, rfl⟩ | ⟨g, cap, cur, rfl, _⟩
  · refine Or.inl ⟨rfl, rfl, List.length_eq_zero_iff.1 (by rw [h.1]; omega)⟩
  · refine Or.inr ⟨⟨g, 0, none⟩, cap, rfl, h.1, fun j u hu => ?_, h1⟩
    have hj : j < xs.length := by
      rcases Nat.lt_or_ge j xs.length with c | c
      · exact c
      · rw [List.getElem?_eq_none c] at hu; cases hu
    have hadd : (⟨g, 0, none⟩ : Addr).add j = ⟨g, j, none⟩ := by unfold Addr.add; split <;> simp_all
    rw [hadd, h.cellAt j (by rw [← h.1]; exact hj)]
    exact hu
theorem Src.stay {w w' : World} {size : Nat} {v : Value} {n : Nat} {xs : List Value} (h : Src w size v n xs) (hc : ∀ a u, w.cell? a = some u → (∀ g, v.ownBlock = some g → a.block = g) → w'.cell? a = some u) : Src w' size v n xs := by
  rcases h with h | ⟨ad, c, rfl, h1, h2, h3⟩
  · exact Or.inl h
  · refine Or.inr ⟨ad, c, rfl, h1, fun j u hu => hc _ u (h2 j u hu) (fun g hg => ?_), h3⟩
    have e : ad.block = g := by simpa [Value.ownBlock] using hg
    unfold Addr.add
    split <;> exact e

end Go.Proofs.YthmocdabakkfhaaGreatDoor

/-
  Layer 9: the reference's heap: rows of objects by lists.
-/
namespace Go.Proofs.YthmocdabakkfhaaGreatDoor
set_option maxRecDepth 100000
open Go.RowKit Flo

/-! ### rows of values -/
def V4.cells (v : V4) : List Value := [.int .i64 v.K, .int .u64 v.N, .string v.S, .int .i64 v.O]
def vC (l : List V4) : List Value := l.flatMap V4.cells
theorem vC_length : ∀ l : List V4, (vC l).length = l.length * 4
  | [] => rfl
  | v :: l => by
    have := vC_length l
    unfold vC at *
    rw [List.flatMap_cons, List.length_append, this]
    simp [V4.cells]; omega
theorem vC_append (l m : List V4) : vC (l ++ m) = vC l ++ vC m := by unfold vC; simp
theorem vC_at : ∀ (l : List V4) (i : Nat) (v : V4), l[i]? = some v → ∀ j, j < 4 → (vC l)[i * 4 + j]? = v.cells[j]?
  | [], i, v, h, j, _ => by simp at h
  | p :: l, 0, v, h, j, hj => by
    simp only [List.getElem?_cons_zero, Option.some.injEq] at h
    subst h
    unfold vC
    rw [List.flatMap_cons, List.getElem?_append_left (by simp [V4.cells]; omega)]
    simp
  | p :: l, i + 1, v, h, j, hj => by
    rw [List.getElem?_cons_succ] at h
    have := vC_at l i v h j hj
    unfold vC at *
    have hl : p.cells.length = 4 := rfl
    rw [List.flatMap_cons, List.getElem?_append_right (by rw [hl]; omega), hl, show (i + 1) * 4 + j - 4 = i * 4 + j by omega]
    exact this
theorem vC_one (l : List V4) : ∀ u ∈ vC l, u.oneCell' = true := by
  intro u hu
  unfold vC at hu
  obtain ⟨v, _, hv⟩ := List.mem_flatMap.1 hu
  simp only [V4.cells, List.mem_cons, List.not_mem_nil, or_false] at hv
  rcases hv with rfl | rfl | rfl | rfl <;> rfl
/-- The slice v, whose block is its own, holds the values l. -/
def Vr (w : World) (v : Value) (l : List V4) : Prop := w.ownsRow 0 37 4 v l.length (vC l)
theorem Vr.form {w : World} {v : Value} {l : List V4} (h : Vr w v l) : ∃ a cap, v = .slice a l.length cap ∧ (0 < l.length → ∃ g, a = some ⟨g, 0, none⟩ ∧ g < w.heap.size ∧ ∀ i x, l[i]? = some x → At4 w g (i * 4) x) := by
  rcases rowForm h with ⟨e, e0⟩ | ⟨g, cap, e, hg⟩
  · exact ⟨none, 0, by rw [e, e0], fun c => by omega⟩
  · refine ⟨_, cap, e, fun _ => ⟨g, rfl, hg, fun i x hx => ?_⟩⟩
    have hi : i < l.length := by
      rcases Nat.lt_or_ge i l.length with c | c
      · exact c
      · rw [List.getElem?_eq_none c] at hx; cases hx
    have h2 : w.ownsRow 0 37 4 (.slice (some ⟨g, 0, none⟩) l.length cap) l.length (vC l) := by rw [← e]; exact h
    have hc : ∀ j, j < 4 → w.cell? ⟨g, i * 4 + j, none⟩ = x.cells[j]? := fun j hj => by
      rw [h2.cellAt (i * 4 + j) (by omega), vC_at l i x hx j hj]
    exact ⟨hc 0 (by omega), hc 1 (by omega), hc 2 (by omega), hc 3 (by omega)⟩
theorem Vr.wx {w w' : World} {v : Value} {l : List V4} {X : Nat → Prop} (h : Vr w v l) (k : Wx X w w') (hX : ∀ g, v.ownBlock = some g → ¬ X g) : Vr w' v l :=
  rowStay h (fun g hg => k.block g (World.ownsRow.lt h g hg).2 (hX g hg))

/-! ### objects by lists -/
structure Om where
  k : Int
  a : Int
  b : Int
  M : V4
  ks : List V4
  vs : List V4
  sl : List V4
def Om.wt (o : Om) : Nat := 1 + o.ks.length + o.sl.length
structure Rr where
  om : Om
  kv : Value
  vv : Value
  sv : Value
def Rr.cells (r : Rr) : List Value := [.int .i64 r.om.k, r.kv, r.vv, .int .i64 r.om.M.K, .int .u64 r.om.M.N, .string r.om.M.S, .int .i64 r.om.M.O, .int .i64 r.om.a, .int .i64 r.om.b, r.sv]
def rC (l : List Rr) : List Value := l.flatMap Rr.cells
theorem rC_length : ∀ l : List Rr, (rC l).length = l.length * 10
  | [] => rfl
  | v :: l => by
    have := rC_length l
    unfold rC at *
    rw [List.flatMap_cons, List.length_append, this]
    simp [Rr.cells]; omega
theorem rC_append (l m : List Rr) : rC (l ++ m) = rC l ++ rC m := by unfold rC; simp
theorem rC_at : ∀ (l : List Rr) (i : Nat) (v : Rr), l[i]? = some v → ∀ j, j < 10 → (rC l)[i * 10 + j]? = v.cells[j]?
  | [], i, v, h, j, _ => by simp at h
  | p :: l, 0, v, h, j, hj => by
    simp only [List.getElem?_cons_zero, Option.some.injEq] at h
    subst h
    unfold rC
    rw [List.flatMap_cons, List.getElem?_append_left (by simp [Rr.cells]; omega)]
    simp
  | p :: l, i + 1, v, h, j, hj => by
    rw [List.getElem?_cons_succ] at h
    have := rC_at l i v h j hj
    unfold rC at *
    have hl : p.cells.length = 10 := rfl
    rw [List.flatMap_cons, List.getElem?_append_right (by rw [hl]; omega), hl, show (i + 1) * 10 + j - 10 = i * 10 + j by omega]
    exact this

/-- An object's rows lie in blocks of Q. -/
structure Rrv (w : World) (Q : Nat → Prop) (r : Rr) : Prop where
  k : Vr w r.kv r.om.ks
  v : Vr w r.vv r.om.vs
  s : Vr w r.sv r.om.sl
  own : ∀ g, r.kv.ownBlock = some g ∨ r.vv.ownBlock = some g ∨ r.sv.ownBlock = some g → Q g
  len : r.om.vs.length = r.om.ks.length
theorem Rrv.wx {w w' : World} {Q X : Nat → Prop} {r : Rr} (h : Rrv w Q r) (k : Wx X w w') (hX : ∀ g, Q g → ¬ X g) : Rrv w' Q r :=
  ⟨h.k.wx k (fun g hg => hX g (h.own g (Or.inl hg))), h.v.wx k (fun g hg => hX g (h.own g (Or.inr (Or.inl hg)))), h.s.wx k (fun g hg => hX g (h.own g (Or.inr (Or.inr hg)))), h.own, h.len⟩
theorem Rrv.more {w : World} {Q Q' : Nat → Prop} {r : Rr} (h : Rrv w Q r) (hQ : ∀ g, Q g → Q' g) : Rrv w Q' r := ⟨h.k, h.v, h.s, fun g hg => hQ g (h.own g hg), h.len⟩
def usedR (rs : List Rr) : Nat := (rs.map fun r => r.om.wt).sum
theorem usedR_len : ∀ rs : List Rr, rs.length ≤ usedR rs
  | [] => Nat.le_refl _
  | r :: l => by
    have := usedR_len l
    unfold usedR at *
    simp only [List.map_cons, List.sum_cons, List.length_cons]
    unfold Om.wt at *; omega
theorem usedR_ge : ∀ (rs : List Rr) (i : Nat) (r : Rr), rs[i]? = some r → r.om.wt ≤ usedR rs
  | [], i, r, h => by simp at h
  | p :: l, 0, r, h => by
    simp only [List.getElem?_cons_zero, Option.some.injEq] at h
    subst h
    unfold usedR
    simp only [List.map_cons, List.sum_cons]; omega
  | p :: l, i + 1, r, h => by
    rw [List.getElem?_cons_succ] at h
    have := usedR_ge l i r h
    unfold usedR at *
    simp only [List.map_cons, List.sum_cons]; omega

/-- The reference's heap in the block db: its row of objects R, in blocks of Q that nothing else writes. -/
structure Rv (w : World) (db lim : Nat) (R : Value) (rs : List Rr) (Q : Nat → Prop) : Prop where
  c0 : w.cell? ⟨db, 0, none⟩ = some R
  c1 : w.cell? ⟨db, 1, none⟩ = some (.int .i64 lim)
  free : ∀ o, w.frozen? ⟨db, o, none⟩ = false
  row : w.ownsRow 0 39 10 R rs.length (rC rs)
  ob : ∀ (i : Nat) r, rs[i]? = some r → Rrv w (fun g => Q g ∧ g ≠ db) r
  lt : ∀ k, Q k → k < w.heap.size
  qd : Q db
  qr : ∀ g, R.ownBlock = some g → Q g ∧ g ≠ db
  hl : lim ≤ 1048576
  hu : usedR rs ≤ lim
theorem Rv.wx {w w' : World} {db lim : Nat} {R : Value} {rs : List Rr} {Q X : Nat → Prop} (h : Rv w db lim R rs Q) (k : Wx X w w') (hX : ∀ g, Q g → ¬ X g) : Rv w' db lim R rs Q :=
  ⟨k.cell (hX _ h.qd) h.c0, k.cell (hX _ h.qd) h.c1, fun o => (k.frozen (h.lt _ h.qd) (hX _ h.qd)).trans (h.free o), rowStay h.row (fun g hg => k.block g (h.lt g (h.qr g hg).1) (hX g (h.qr g hg).1)),
    fun i r hr => (h.ob i r hr).wx k (fun g hg => hX g hg.1), fun g hg => Nat.lt_of_lt_of_le (h.lt g hg) k.size, h.qd, h.qr, h.hl, h.hu⟩
theorem Rv.below {w w' : World} {db lim : Nat} {R : Value} {rs : List Rr} {Q : Nat → Prop} (h : Rv w db lim R rs Q) (k : Below w.heap.size w w') : Rv w' db lim R rs Q :=
  h.wx (Wx.of_below (fun _ => False) k) (fun _ _ c => c)
/-- What can be read of the row of objects. -/
theorem Rv.form {w : World} {db lim : Nat} {R : Value} {rs : List Rr} {Q : Nat → Prop} (h : Rv w db lim R rs Q) : ∃ a cap, R = .slice a rs.length cap ∧ (0 < rs.length → ∃ g, a = some ⟨g, 0, none⟩ ∧ g < w.heap.size ∧ ∀ i r, rs[i]? = some r → ∀ j, j < 10 → w.cell? ⟨g, i * 10 + j, none⟩ = r.cells[j]?) := by
  rcases rowForm h.row with ⟨e, e0⟩ | ⟨g, cap, e, hg⟩
  · exact ⟨none, 0, by rw [e, e0], fun c => by omega⟩
  · refine ⟨_, cap, e, fun _ => ⟨g, rfl, hg, fun i r hr j hj => ?_⟩⟩
    have hi : i < rs.length := by
      rcases Nat.lt_or_ge i rs.length with c | c
      · exact c
      · rw [List.getElem?_eq_none c] at hr; cases hr
    have h2 : w.ownsRow 0 39 10 (.slice (some ⟨g, 0, none⟩) rs.length cap) rs.length (rC rs) := by rw [← e]; exact h.row
    rw [h2.cellAt (i * 10 + j) (by omega), rC_at rs i r hr j hj]
theorem rC_one (rs : List Rr) (h : ∀ r ∈ rs, r.kv.oneCell' = true ∧ r.vv.oneCell' = true ∧ r.sv.oneCell' = true) : ∀ u ∈ rC rs, u.oneCell' = true := by
  intro u hu
  unfold rC at hu
  obtain ⟨v, hv0, hv⟩ := List.mem_flatMap.1 hu
  obtain ⟨h1, h2, h3⟩ := h v hv0
  simp only [Rr.cells, List.mem_cons, List.not_mem_nil, or_false] at hv
  rcases hv with rfl | rfl | rfl | rfl | rfl | rfl | rfl | rfl | rfl | rfl <;> first | rfl | assumption
theorem Vr.one {w : World} {v : Value} {l : List V4} (h : Vr w v l) : v.oneCell' = true := by
  obtain ⟨a, cap, rfl, _⟩ := h.form
  rfl

end Go.Proofs.YthmocdabakkfhaaGreatDoor

/-
  Layer 9: the reference's Used, Is, Has, place.
-/
namespace Go.Proofs.YthmocdabakkfhaaGreatDoor
set_option maxRecDepth 100000
open Go.RowKit Flo

theorem usedR_take : ∀ (rs : List Rr) (k : Nat) (r : Rr), rs[k]? = some r → usedR (rs.take (k + 1)) = usedR (rs.take k) + r.om.wt
  | [], k, r, h => by simp at h
  | p :: l, 0, r, h => by
    simp only [List.getElem?_cons_zero, Option.some.injEq] at h
    subst h
    simp [usedR]
  | p :: l, k + 1, r, h => by
    rw [List.getElem?_cons_succ] at h
    have := usedR_take l k r h
    unfold usedR at *
    rw [List.take_succ_cons, List.take_succ_cons, List.map_cons, List.map_cons, List.sum_cons, List.sum_cons, this]
    omega
theorem usedR_le : ∀ (rs : List Rr) (k : Nat), usedR (rs.take k) ≤ usedR rs
  | [], k => by simp
  | p :: l, 0 => by simp [usedR]
  | p :: l, k + 1 => by
    have := usedR_le l k
    unfold usedR at *
    rw [List.take_succ_cons, List.map_cons, List.map_cons, List.sum_cons, List.sum_cons]
    omega

set_option maxHeartbeats 1000000 in
theorem rused_any {w : World} {db lim : Nat} {R : Value} {rs : List Rr} {Q : Nat → Prop} (h : Rv w db lim R rs Q) :
    Calls Tryz.prog 44 #[.pointer (some ⟨db, 0, none⟩)] w fun e w' => e = .returned (.int .i64 ((usedR rs : Nat) : Int)) ∧ ∃ q, w' = w.drewN q := by
  obtain ⟨a, cap, hR, hf⟩ := h.form
  have hc0 := h.c0
  rw [hR] at hc0
  have hlen := usedR_len rs
  have hul : usedR rs ≤ 1048576 := Nat.le_trans h.hu h.hl
  have HF : Hid (∀ k, k < rs.length → ∃ g r A1 C1 A2 C2, a = some ⟨g, 0, none⟩ ∧ rs[k]? = some r ∧ w.cell? ⟨g, k * 10 + 1, none⟩ = some (.slice A1 r.om.ks.length C1) ∧ w.cell? ⟨g, k * 10 + 9, none⟩ = some (.slice A2 r.om.sl.length C2)) := fun k hk => by
    obtain ⟨g, e, _, hc⟩ := hf (by omega)
    have hr : rs[k]? = some rs[k] := List.getElem?_eq_getElem hk
    have ho := h.ob k _ hr
    obtain ⟨A1, C1, e1, _⟩ := ho.k.form
    obtain ⟨A2, C2, e2, _⟩ := ho.s.form
    refine ⟨g, rs[k], A1, C1, A2, C2, e, hr, ?_, ?_⟩
    · rw [hc k _ hr 1 (by omega), ← e1]; rfl
    · rw [hc k _ hr 9 (by omega), ← e2]; rfl
  have HU : Hid (∀ k r, rs[k]? = some r → usedR (rs.take (k + 1)) = usedR (rs.take k) + (1 + r.om.ks.length + r.om.sl.length) ∧ usedR (rs.take (k + 1)) ≤ usedR rs) := fun k r hr => ⟨usedR_take rs k r hr, usedR_le rs _⟩
  have HE : Hid (usedR (rs.take rs.length) = usedR rs) := by show usedR (rs.take rs.length) = usedR rs; rw [List.take_length]
  have HZ : Hid (usedR (rs.take 0) = 0) := rfl
  clear h hf hR
  obtain ⟨n, hn⟩ : ∃ n, n = rs.length := ⟨_, rfl⟩
  rw [← hn] at hlen hc0 HF HE
  clear hn
  obtain ⟨U, hU⟩ : ∃ U : Nat → Nat, U = fun k => usedR (rs.take k) := ⟨_, rfl⟩
  have hUa : ∀ k, usedR (rs.take k) = U k := fun k => by rw [hU]
  simp only [hUa] at HU HE HZ
  clear hU hUa
  generalize usedR rs = u at *
  go_enter Tryz.func44, Tryz.ntmps44
  go_wp2_with fail
  go_loopg [3, 4] n (fun kk s i wr => ∃ k : Nat, k ≤ n ∧ i = .int .i64 (k : Int) ∧ s = .int .i64 ((U k : Nat) : Int) ∧ Hid ((∃ q, wr = w.drewN q) ∧ kk = n - k))
  case atStart => exact ⟨0, Nat.zero_le _, rfl, by rw [HZ.out]; rfl, ⟨0, rfl⟩, rfl⟩
  case round =>
    obtain ⟨k, hk, rfl, rfl, HK⟩ := hrel
    have hcw : ∀ p, wr.cell? p = w.cell? p := fun p => by
      obtain ⟨⟨q, e⟩, _⟩ := HK.out
      rw [e]; rfl
    have d0 : wr.cell? ⟨db, 0, none⟩ = some (.slice a n cap) := (hcw _).trans hc0
    by_cases c : k < n
    · obtain ⟨g, r, A1, C1, A2, C2, rfl, hr, e1, e2⟩ := HF.out k c
      obtain ⟨u1, u2⟩ := HU.out k r hr
      have f1 : wr.cell? ⟨g, k * 10 + 1, none⟩ = some (.slice A1 r.om.ks.length C1) := (hcw _).trans e1
      have f2 : wr.cell? ⟨g, k * 10 + 9, none⟩ = some (.slice A2 r.om.sl.length C2) := (hcw _).trans e2
      have ci : (k : Int) < (n : Int) := by omega
      have HU1 : Hid (U (k + 1) = U k + (1 + r.om.ks.length + r.om.sl.length)) := u1
      have hb1 : U k + (1 + r.om.ks.length + r.om.sl.length) ≤ 1048576 := by omega
      clear HF HU HE HZ u1 u2 e1 e2 hr hc0 hcw
      generalize r.om.ks.length = n1 at *
      generalize r.om.sl.length = n2 at *
      generalize U k = uk at *
      have hn : n ≤ 1048576 := by omega
      go_wp2_with fail
      go_quiet (fail)
      go_wp2
      go_roundg (n - (k + 1))
      case measure => have := HK.out.2; omega
      case rel => exact ⟨k + 1, by omega, by go_num, by rw [HU1.out]; go_num, by obtain ⟨⟨q, e⟩, _⟩ := HK.out; exact ⟨⟨q + nq, by rw [e]; simp [World.drewN, Nat.add_assoc]⟩, rfl⟩⟩
    · have hkn : k = n := by omega
      subst hkn
      go_wp2
      go_ret
      exact ⟨by rw [HE.out]; rfl, HK.out.1⟩

theorem ris_any {w : World} {db lim : Nat} {R : Value} {rs : List Rr} {Q : Nat → Prop} (h : Rv w db lim R rs Q) (o : Int) :
    Calls Tryz.prog 14 #[.pointer (some ⟨db, 0, none⟩), .int .i64 o] w fun e w' => e = .returned (.bool (decide (1 ≤ o ∧ o ≤ rs.length))) ∧ w' = w := by
  obtain ⟨a, cap, hR, hf⟩ := h.form
  have hc0 := h.c0
  rw [hR] at hc0
  have hlen : rs.length ≤ 1048576 := by have := usedR_len rs; have := h.hu; have := h.hl; omega
  clear h hR hf
  generalize rs.length = n at *
  by_cases c : 1 ≤ o
  · by_cases d : o ≤ n
    · rw [show decide (1 ≤ o ∧ o ≤ (n : Int)) = true from decide_eq_true ⟨c, d⟩]
      have c2 : o ≥ 1 := c
      go_enter Tryz.func14, Tryz.ntmps14
      go_wp2
      go_ret
      exact ⟨rfl, rfl⟩
    · rw [show decide (1 ≤ o ∧ o ≤ (n : Int)) = false from decide_eq_false (fun q => d q.2)]
      have c2 : o ≥ 1 := c
      go_enter Tryz.func14, Tryz.ntmps14
      go_wp2
      go_ret
      exact ⟨rfl, rfl⟩
  · rw [show decide (1 ≤ o ∧ o ≤ (n : Int)) = false from decide_eq_false (fun q => c q.1)]
    have c2 : ¬ o ≥ 1 := c
    go_enter Tryz.func14, Tryz.ntmps14
    go_wp2
    go_ret
    exact ⟨rfl, rfl⟩

/-- The object of a number, with its rows. -/
def rAt (rs : List Rr) (o : Int) : Option Rr := if 1 ≤ o ∧ o ≤ rs.length then rs[(o - 1).toNat]? else none
def rTab (rs : List Rr) (o : Int) : Option Rr := (rAt rs o).filter fun r => decide (r.om.k = 5)
theorem rAt_some {rs : List Rr} {o : Int} {r : Rr} (h : rAt rs o = some r) : ∃ i : Nat, o = (i : Int) + 1 ∧ (o - 1).toNat = i ∧ i < rs.length ∧ rs[i]? = some r := by
  unfold rAt at h
  split at h
  · exact ⟨(o - 1).toNat, by omega, rfl, by omega, h⟩
  · cases h
theorem rAt_of {rs : List Rr} {o : Int} (h : 1 ≤ o ∧ o ≤ rs.length) : ∃ r, rAt rs o = some r := by
  unfold rAt
  rw [if_pos h]
  exact ⟨rs[(o - 1).toNat]'(by omega), List.getElem?_eq_getElem (by omega)⟩
theorem rAt_none {rs : List Rr} {o : Int} (h : ¬ (1 ≤ o ∧ o ≤ rs.length)) : rAt rs o = none := by unfold rAt; rw [if_neg h]

theorem rhas_any {w : World} {db lim : Nat} {R : Value} {rs : List Rr} {Q : Nat → Prop} (h : Rv w db lim R rs Q) (o : Int) :
    Calls Tryz.prog 7 #[.pointer (some ⟨db, 0, none⟩), .int .i64 o] w fun e w' => e = .returned (.bool (rTab rs o).isSome) ∧ w' = w := by
  have HI := ris_any h o
  by_cases c : 1 ≤ o ∧ o ≤ rs.length
  · rw [show decide (1 ≤ o ∧ o ≤ (rs.length : Int)) = true from decide_eq_true c] at HI
    obtain ⟨r, hr⟩ := rAt_of c
    obtain ⟨i, ho, _, hi, hri⟩ := rAt_some hr
    obtain ⟨a, cap, hR, hf⟩ := h.form
    obtain ⟨g, rfl, _, hc⟩ := hf (by omega)
    have hc0 := h.c0
    rw [hR] at hc0
    have hk := hc i r hri 0 (by omega)
    have hk2 : w.cell? ⟨g, i * 10, none⟩ = some (.int .i64 r.om.k) := hk
    have hres : (rTab rs o).isSome = decide (r.om.k = 5) := by
      unfold rTab
      rw [hr]
      simp only [Option.filter_some]
      by_cases d : r.om.k = 5 <;> simp [d]
    rw [hres]
    have hlen : rs.length ≤ 1048576 := by have := usedR_len rs; have := h.hu; have := h.hl; omega
    have hil : (i : Int) < (rs.length : Int) := by omega
    clear h hR hf hc hk hr hri hres c
    generalize rs.length = n at *
    generalize r.om.k = rk at *
    subst ho
    have e1 : (i : Int) + 1 - 1 = (i : Int) := by omega
    by_cases d : rk = 5
    · subst d
      rw [show decide ((5 : Int) = 5) = true from rfl]
      go_enter Tryz.func7, Tryz.ntmps7
      go_wp2_with fail
      refine HI.mono ?_
      rintro e w' ⟨rfl, rfl⟩
      clear HI
      go_wp2
      go_ret
      exact ⟨rfl, rfl⟩
    · rw [show decide (rk = 5) = false from decide_eq_false d]
      have d2 : (rk == 5) = false := by simpa using d
      go_enter Tryz.func7, Tryz.ntmps7
      go_wp2_with fail
      refine HI.mono ?_
      rintro e w' ⟨rfl, rfl⟩
      clear HI
      go_wp2
      go_ret
      exact ⟨by rw [← d2]; rfl, rfl⟩
  · rw [show decide (1 ≤ o ∧ o ≤ (rs.length : Int)) = false from decide_eq_false c] at HI
    rw [show (rTab rs o).isSome = false by unfold rTab; rw [rAt_none c]; rfl]
    clear h c
    go_enter Tryz.func7, Tryz.ntmps7
    go_wp2_with fail
    refine HI.mono ?_
    rintro e w' ⟨rfl, rfl⟩
    clear HI
    go_wp2
    go_ret
    exact ⟨rfl, rfl⟩

end Go.Proofs.YthmocdabakkfhaaGreatDoor

/-
  Layer 9: the landed heap's small calls: Set of no table, Table without room, SetMeta, Mark, slots.
-/
namespace Go.Proofs.YthmocdabakkfhaaGreatDoor
set_option maxRecDepth 100000
open Go.RowKit Flo

set_option maxHeartbeats 1000000 in
theorem Set_none {w : World} {hb lim used : Nat} {R : Value} {os : List Ob} {Z : Nat → Prop} (h : Hv w hb lim used R os Z) (o : Int) (ht : tabOf os o = none) (K N : Int) (S : ByteArray) (O vK vN : Int) (vS : ByteArray) (vO : Int) :
    Calls Tryz.prog 17 #[.pointer (some ⟨hb, 0, none⟩), .int .i64 o, .agg #[.int .i64 K, .int .u64 N, .string S, .int .i64 O], .agg #[.int .i64 vK, .int .u64 vN, .string vS, .int .i64 vO]] w fun e w' => e = .returned (.int .i64 5) ∧ Below w.heap.size w w' := by
  have HT : Hid (∀ w', Below w.heap.size w w' → Calls Tryz.prog 21 #[.pointer (some ⟨hb, 0, none⟩), .int .i64 o] w' fun e w2 => e = .returned (.pointer none) ∧ w2 = w') := fun w' hb' => by
    have := tableOf_hv (h.below hb') o
    rw [show ptrOf os o = none by unfold ptrOf; rw [ht]; rfl] at this
    exact this
  have HB : Hid (Below w.heap.size w ((w.alloc (.cells #[.int .i64 K, .int .u64 N, .string S, .int .i64 O] 37)).alloc (.cells #[.int .i64 vK, .int .u64 vN, .string vS, .int .i64 vO] 37))) := ((Below.refl _ _).alloc (Nat.le_refl _) _).alloc (by simp) _
  clear h ht
  go_enter Tryz.func17, Tryz.ntmps17
  go_wp2_with fail
  refine (HT.out _ HB.out).mono ?_
  rintro e w1 ⟨rfl, rfl⟩
  clear HT
  go_wp2
  go_ret
  exact ⟨rfl, HB.out⟩

set_option maxHeartbeats 1000000 in
theorem table_full {w : World} {hb lim used : Nat} {R : Value} {os : List Ob} {Z : Nat → Prop} (h : Hv w hb lim used R os Z) (hlt : lim ≤ used) :
    Calls Tryz.prog 16 #[.pointer (some ⟨hb, 0, none⟩)] w fun e w' => e = .returned (.tuple #[.int .i64 0, .int .i64 2]) ∧ Below w.heap.size w w' := by
  have hl := left_any hb lim used w h.c0 h.c1 ⟨by omega, by have := h.hl; omega⟩ ⟨by omega, by have := h.hl; have := h.hu; omega⟩
  have hc : ((lim : Int) - (used : Int) < 1) := by omega
  clear h
  go_enter Tryz.func16, Tryz.ntmps16
  go_wp2_with fail
  refine hl.mono ?_
  rintro e w1 ⟨rfl, q, rfl⟩
  have HQ : Hid (Below w.heap.size w (w.drewN q)) := hp_drewN w q
  clear hl
  go_wp2
  go_ret2
  exact ⟨rfl, HQ.out⟩

/-! ### SetMeta -/
set_option maxHeartbeats 1000000 in
theorem SetMeta_none {w : World} {hb lim used : Nat} {R : Value} {os : List Ob} {Z : Nat → Prop} (h : Hv w hb lim used R os Z) (o : Int) (ht : tabOf os o = none) (K N : Int) (S : ByteArray) (O : Int) :
    Calls Tryz.prog 29 #[.pointer (some ⟨hb, 0, none⟩), .int .i64 o, .agg #[.int .i64 K, .int .u64 N, .string S, .int .i64 O]] w fun e w' => e = .returned (.int .i64 5) ∧ Below w.heap.size w w' := by
  have HB : Hid (Below w.heap.size w (w.alloc (.cells #[.int .i64 K, .int .u64 N, .string S, .int .i64 O] 37))) := (Below.refl _ _).alloc (Nat.le_refl _) _
  have HT : Hid (∀ w', Below w.heap.size w w' → Calls Tryz.prog 21 #[.pointer (some ⟨hb, 0, none⟩), .int .i64 o] w' fun e w2 => e = .returned (.pointer none) ∧ w2 = w') := fun w' hb' => by
    have := tableOf_hv (h.below hb') o
    rw [show ptrOf os o = none by unfold ptrOf; rw [ht]; rfl] at this
    exact this
  clear h ht
  go_enter Tryz.func29, Tryz.ntmps29
  go_wp2_with fail
  refine (HT.out _ HB.out).mono ?_
  rintro e w1 ⟨rfl, rfl⟩
  clear HT
  go_wp2
  go_ret
  exact ⟨rfl, HB.out⟩

/-- SetMeta of a table, up to the test: what it does is told by the form of m. -/
theorem SetMeta_of {w : World} {hb lim used i tb : Nat} {R : Value} {os : List Ob} {Z : Nat → Prop} {x : Ob} (h : Hv w hb lim used R os Z) (hi : os[i]? = some x) (ht : x.tb = some tb) (o : Int) (ho : o = (i : Int) + 1) (K N : Int) (S : ByteArray) (O : Int) (hN : U64 N) (nk nn : Int) (ns : ByteArray) (no : Int) (e0 : nK K = nk) (e1 : nN K N = nn) (e2 : nS K S = ns) (e3 : nO K O = no) :
    (nk ≠ 0 → (nk ≠ 5 ∨ tabOf os no = none) → Calls Tryz.prog 29 #[.pointer (some ⟨hb, 0, none⟩), .int .i64 o, .agg #[.int .i64 K, .int .u64 N, .string S, .int .i64 O]] w fun e w' => e = .returned (.int .i64 1) ∧ Below w.heap.size w w') ∧
    (nk = 0 ∨ (nk = 5 ∧ tabOf os no ≠ none) → Calls Tryz.prog 29 #[.pointer (some ⟨hb, 0, none⟩), .int .i64 o, .agg #[.int .i64 K, .int .u64 N, .string S, .int .i64 O]] w fun e w' => e = .returned (.int .i64 0) ∧ Hv w' hb lim used R (os.set i { x with M := ⟨nk, nn, ns, no⟩ }) Z ∧ Wx Z w w') := by
  have HB : Hid (Below w.heap.size w (w.alloc (.cells #[.int .i64 K, .int .u64 N, .string S, .int .i64 O] 37))) := (Below.refl _ _).alloc (Nat.le_refl _) _
  have HT : Hid (∀ w', Below w.heap.size w w' → Calls Tryz.prog 21 #[.pointer (some ⟨hb, 0, none⟩), .int .i64 o] w' fun e w2 => e = .returned (.pointer (some ⟨tb, 0, none⟩)) ∧ w2 = w') := fun w' hb' => by
    have := tableOf_hv (h.below hb') o
    rw [show ptrOf os o = some ⟨tb, 0, none⟩ by unfold ptrOf; rw [ho, tabOf_of hi ht]; simp [Ob.ptr, ht]] at this
    exact this
  have HT2 : Hid (∀ w', Below w.heap.size w w' → Calls Tryz.prog 21 #[.pointer (some ⟨hb, 0, none⟩), .int .i64 no] w' fun e w2 => e = .returned (.pointer (ptrOf os no)) ∧ w2 = w') := fun w' hb' => tableOf_hv (h.below hb') no
  have HN : Hid (∀ w, Calls Tryz.prog 22 #[.agg #[.int .i64 K, .int .u64 N, .string S, .int .i64 O]] w fun e w' => e = .returned (.agg #[.int .i64 nk, .int .u64 nn, .string ns, .int .i64 no]) ∧ Below w.heap.size w w') := fun w => by rw [← e0, ← e1, ← e2, ← e3]; exact normal_any K N S O w hN
  have HQ : Hid (nk = 0 ∨ (nk = 5 ∧ tabOf os no ≠ none) → ∀ w', Below w.heap.size w w' → At4 w' tb 0 x.M ∧ (∀ k, w'.frozen? ⟨tb, k, none⟩ = false) ∧ Hv (set4W w' tb ⟨nk, nn, ns, no⟩) hb lim used R (os.set i { x with M := ⟨nk, nn, ns, no⟩ }) Z ∧ Wx Z w (set4W w' tb ⟨nk, nn, ns, no⟩)) := fun hc w' hb' => by
    have h' := h.below hb'
    have hT := ((h'.ob i x hi).tab tb ht).2.1
    obtain ⟨k1, k2⟩ := h'.meta hi ht ⟨nk, nn, ns, no⟩ (by
      rcases hc with c | ⟨c, d⟩
      · exact Or.inl c
      · obtain ⟨p, hp⟩ := Option.ne_none_iff_exists'.1 d
        obtain ⟨j, tb2, e1, e2, e3⟩ := tabOf_some hp
        exact Or.inr ⟨c, by show 1 ≤ no; omega, p, by show os[(no - 1).toNat]? = _; rw [e1, show ((j : Int) + 1 - 1).toNat = j by omega]; exact e2, by rw [e3]; simp⟩)
    exact ⟨hT.mt, fun k => hT.free tb k hT.own, k1, (Wx.of_below Z hb').trans k2 (fun k hk => Or.inl hk)⟩
  have HPN : Hid (tabOf os no = none → ptrOf os no = none) := fun e => by unfold ptrOf; rw [e]; rfl
  have HPS : Hid (tabOf os no ≠ none → ∃ t2, ptrOf os no = some ⟨t2, 0, none⟩) := fun d => by
    obtain ⟨p, hp⟩ := Option.ne_none_iff_exists'.1 d
    obtain ⟨j, tb2, e1, e2, e3⟩ := tabOf_some hp
    exact ⟨tb2, by unfold ptrOf; rw [hp]; simp [Ob.ptr, e3]⟩
  clear h hi ht ho e0 e1 e2 e3
  constructor
  · intro hk0 hbad
    by_cases hk5 : nk = 5
    · have hno : tabOf os no = none := by
        rcases hbad with c | c
        · exact absurd hk5 c
        · exact c
      rw [HPN.out hno] at HT2
      clear HPN HPS hbad hno HQ
      subst hk5
      go_enter Tryz.func29, Tryz.ntmps29
      go_wp2_with fail
      refine (HT.out _ HB.out).mono ?_
      rintro e w1 ⟨rfl, rfl⟩
      clear HT
      go_wp2_with fail
      refine (HN.out _).mono ?_
      rintro e w1 ⟨rfl, hb1⟩
      obtain ⟨p0, p1, p2, p3⟩ := keep4 (b := w.heap.size) (v0 := .int .i64 K) (v1 := .int .u64 N) (v2 := .string S) (v3 := .int .i64 O) ⟨by go_simp, by go_simp, by go_simp, by go_simp⟩ hb1
      have hf1 : ∀ k, w1.frozen? ⟨w.heap.size, k, none⟩ = false := fun k => (hb1.frozen (by simp)).trans (by go_simp)
      have HB1 : Hid (Below w.heap.size w w1) := HB.out.trans (hb1.mono (by simp))
      clear hb1 HB HN
      go_wp2_with fail
      refine (HT2.out _ ?_).mono ?_
      · exact set41 HB1.out (Nat.le_refl _) _ _ _ _
      rintro e w2 ⟨rfl, hw2⟩
      have hB2 : Hid (Below w.heap.size w w2) := by rw [hw2]; exact set41 HB1.out (Nat.le_refl _) _ _ _ _
      clear hw2 HT2 HB1 p0 p1 p2 p3 hf1
      go_wp2
      go_ret
      exact ⟨rfl, hB2.out⟩
    · clear HT2 HPN HPS hbad HQ
      go_enter Tryz.func29, Tryz.ntmps29
      go_wp2_with fail
      refine (HT.out _ HB.out).mono ?_
      rintro e w1 ⟨rfl, rfl⟩
      clear HT
      go_wp2_with fail
      refine (HN.out _).mono ?_
      rintro e w1 ⟨rfl, hb1⟩
      obtain ⟨p0, p1, p2, p3⟩ := keep4 (b := w.heap.size) (v0 := .int .i64 K) (v1 := .int .u64 N) (v2 := .string S) (v3 := .int .i64 O) ⟨by go_simp, by go_simp, by go_simp, by go_simp⟩ hb1
      have hf1 : ∀ k, w1.frozen? ⟨w.heap.size, k, none⟩ = false := fun k => (hb1.frozen (by simp)).trans (by go_simp)
      have HB1 : Hid (Below w.heap.size w w1) := HB.out.trans (hb1.mono (by simp))
      have HB2 : Hid (Below w.heap.size w ((((w1.setCell ⟨w.heap.size, 0, none⟩ (.int .i64 nk)).setCell ⟨w.heap.size, 1, none⟩ (.int .u64 nn)).setCell ⟨w.heap.size, 2, none⟩ (.string ns)).setCell ⟨w.heap.size, 3, none⟩ (.int .i64 no))) := set41 HB1.out (Nat.le_refl _) _ _ _ _
      clear hb1 HB HN HB1
      go_wp2
      go_ret
      exact ⟨rfl, HB2.out⟩
  · intro hgood
    have HQ2 : Hid (∀ w', Below w.heap.size w w' → At4 w' tb 0 x.M ∧ (∀ k, w'.frozen? ⟨tb, k, none⟩ = false) ∧ Hv (set4W w' tb ⟨nk, nn, ns, no⟩) hb lim used R (os.set i { x with M := ⟨nk, nn, ns, no⟩ }) Z ∧ Wx Z w (set4W w' tb ⟨nk, nn, ns, no⟩)) := HQ.out hgood
    clear HQ HPN
    by_cases hk0 : nk = 0
    · clear HT2 HPS hgood
      go_enter Tryz.func29, Tryz.ntmps29
      go_wp2_with fail
      refine (HT.out _ HB.out).mono ?_
      rintro e w1 ⟨rfl, rfl⟩
      clear HT
      go_wp2_with fail
      refine (HN.out _).mono ?_
      rintro e w1 ⟨rfl, hb1⟩
      obtain ⟨p0, p1, p2, p3⟩ := keep4 (b := w.heap.size) (v0 := .int .i64 K) (v1 := .int .u64 N) (v2 := .string S) (v3 := .int .i64 O) ⟨by go_simp, by go_simp, by go_simp, by go_simp⟩ hb1
      have hf1 : ∀ k, w1.frozen? ⟨w.heap.size, k, none⟩ = false := fun k => (hb1.frozen (by simp)).trans (by go_simp)
      have HB1 : Hid (Below w.heap.size w w1) := HB.out.trans (hb1.mono (by simp))
      clear hb1 HB HN
      obtain ⟨W2, hW2⟩ : ∃ W2, W2 = (((w1.setCell ⟨w.heap.size, 0, none⟩ (.int .i64 nk)).setCell ⟨w.heap.size, 1, none⟩ (.int .u64 nn)).setCell ⟨w.heap.size, 2, none⟩ (.string ns)).setCell ⟨w.heap.size, 3, none⟩ (.int .i64 no) := ⟨_, rfl⟩
      have hB2 : Below w.heap.size w W2 := by rw [hW2]; exact set41 HB1.out (Nat.le_refl _) _ _ _ _
      obtain ⟨ha, hf, hv, hx⟩ := HQ2.out W2 hB2
      have HF : Hid (Hv (set4W W2 tb ⟨nk, nn, ns, no⟩) hb lim used R (os.set i { x with M := ⟨nk, nn, ns, no⟩ }) Z ∧ Wx Z w (set4W W2 tb ⟨nk, nn, ns, no⟩)) := ⟨hv, hx⟩
      have a0 := ha.c0
      have a1 := ha.c1
      have a2 := ha.c2
      have a3 := ha.c3
      simp only [Nat.zero_add] at a1 a2 a3
      clear hv hx ha hB2 HQ2 HB1
      rw [hW2] at a0 a1 a2 a3 hf HF
      clear hW2
      subst hk0
      go_wp2
      go_ret
      exact ⟨rfl, HF.out⟩
    · have hk5 : nk = 5 := by omega
      have hsome : tabOf os no ≠ none := by
        rcases hgood with c | c
        · exact absurd c hk0
        · exact c.2
      obtain ⟨t2, ht2⟩ := HPS.out hsome
      rw [ht2] at HT2
      clear HPS hsome ht2 hk0 hgood
      subst hk5
      go_enter Tryz.func29, Tryz.ntmps29
      go_wp2_with fail
      refine (HT.out _ HB.out).mono ?_
      rintro e w1 ⟨rfl, rfl⟩
      clear HT
      go_wp2_with fail
      refine (HN.out _).mono ?_
      rintro e w1 ⟨rfl, hb1⟩
      obtain ⟨p0, p1, p2, p3⟩ := keep4 (b := w.heap.size) (v0 := .int .i64 K) (v1 := .int .u64 N) (v2 := .string S) (v3 := .int .i64 O) ⟨by go_simp, by go_simp, by go_simp, by go_simp⟩ hb1
      have hf1 : ∀ k, w1.frozen? ⟨w.heap.size, k, none⟩ = false := fun k => (hb1.frozen (by simp)).trans (by go_simp)
      have HB1 : Hid (Below w.heap.size w w1) := HB.out.trans (hb1.mono (by simp))
      clear hb1 HB HN
      go_wp2_with fail
      refine (HT2.out _ ?_).mono ?_
      · exact set41 HB1.out (Nat.le_refl _) _ _ _ _
      rintro e w2 ⟨rfl, hw2⟩
      have hB2 : Below w.heap.size w w2 := by rw [hw2]; exact set41 HB1.out (Nat.le_refl _) _ _ _ _
      have r0 : w2.cell? ⟨w.heap.size, 0, none⟩ = some (.int .i64 5) := by rw [hw2]; go_simp
      have r1 : w2.cell? ⟨w.heap.size, 1, none⟩ = some (.int .u64 nn) := by rw [hw2]; go_simp
      have r2 : w2.cell? ⟨w.heap.size, 2, none⟩ = some (.string ns) := by rw [hw2]; go_simp
      have r3 : w2.cell? ⟨w.heap.size, 3, none⟩ = some (.int .i64 no) := by rw [hw2]; go_simp
      obtain ⟨ha, hf, hv, hx⟩ := HQ2.out w2 hB2
      have a0 := ha.c0
      have a1 := ha.c1
      have a2 := ha.c2
      have a3 := ha.c3
      simp only [Nat.zero_add] at a1 a2 a3
      have HF : Hid (Hv (set4W w2 tb ⟨5, nn, ns, no⟩) hb lim used R (os.set i { x with M := ⟨5, nn, ns, no⟩ }) Z ∧ Wx Z w (set4W w2 tb ⟨5, nn, ns, no⟩)) := ⟨hv, hx⟩
      clear hv hx ha hB2 hw2 HQ2 HT2 HB1 p0 p1 p2 p3 hf1
      go_wp2
      go_ret
      exact ⟨rfl, HF.out⟩

end Go.Proofs.YthmocdabakkfhaaGreatDoor

/-
  Layer 9: what calls do to objects by lists; the landed Set, whole.
-/
namespace Go.Proofs.YthmocdabakkfhaaGreatDoor
set_option maxRecDepth 100000
open Go.RowKit Flo

def En.k4 (e : En) : V4 := ⟨e.K, e.N, e.S, e.O⟩
def En.v4 (e : En) : V4 := ⟨e.vK, e.vN, e.vS, e.vO⟩
def Ob.om (o : Ob) : Om := ⟨o.k, o.a, o.b, o.M, o.es.map En.k4, o.es.map En.v4, o.sl⟩
theorem Ob.om_wt (o : Ob) : o.om.wt = o.wt := by simp [Ob.om, Om.wt, Ob.wt]
def usedM (L : List Om) : Nat := (L.map Om.wt).sum
theorem used_om (os : List Ob) : usedM (os.map Ob.om) = (os.map Ob.wt).sum := by
  unfold usedM
  rw [List.map_map]
  congr 1
  exact List.map_congr_left (fun o _ => o.om_wt)
theorem used_rom (rs : List Rr) : usedM (rs.map Rr.om) = usedR rs := by
  unfold usedM usedR
  rw [List.map_map]
  rfl
/-- The object of a number. -/
def atM (L : List Om) (o : Int) : Option Om := if 1 ≤ o ∧ o ≤ L.length then L[(o - 1).toNat]? else none
def tabM (L : List Om) (o : Int) : Option Om := (atM L o).filter fun x => decide (x.k = 5)
def isV (a b : V4) : Bool := decide (a.K = b.K ∧ a.N = b.N ∧ a.S = b.S ∧ a.O = b.O)
theorem isV_eq {a b : V4} : isV a b = true ↔ a = b := by
  unfold isV
  rw [decide_eq_true_iff]
  constructor
  · rintro ⟨h1, h2, h3, h4⟩
    cases a; cases b
    simp only at h1 h2 h3 h4
    subst h1; subst h2; subst h3; subst h4
    rfl
  · rintro rfl
    exact ⟨rfl, rfl, rfl, rfl⟩
def placeM (ks : List V4) (k : V4) : Option Nat := ks.findIdx? fun x => isV x k
def keyV (k : V4) : V4 := ⟨yK k.K k.N, yN k.K k.N, yS k.K k.N k.S, yO k.K k.N k.O⟩
def norV (v : V4) : V4 := ⟨nK v.K, nN v.K v.N, nS v.K v.S, nO v.K v.O⟩
def setM (lim : Nat) (L : List Om) (o : Int) (k v : V4) : Int × List Om := match tabM L o with
  | none => (5, L)
  | some x => if kok k.K k.N = false then (1, L) else match placeM x.ks (keyV k) with
    | none => if nK v.K = 0 then (0, L) else if usedM L < lim then (0, L.set (o - 1).toNat { x with ks := x.ks ++ [keyV k], vs := x.vs ++ [norV v] }) else (2, L)
    | some j => if nK v.K = 0 then (0, L.set (o - 1).toNat { x with ks := x.ks.eraseIdx j, vs := x.vs.eraseIdx j }) else (0, L.set (o - 1).toNat { x with vs := x.vs.set j (norV v) })

/-- The landed heap is these objects. -/
def LH (w : World) (hb lim : Nat) (L : List Om) (Z : Nat → Prop) : Prop := ∃ used R os, Hv w hb lim used R os Z ∧ os.map Ob.om = L
def LP (w : World) (hb lim : Nat) (L : List Om) (Z : Nat → Prop) (w' : World) : Prop := ∃ Z', LH w' hb lim L Z' ∧ Wx Z w w' ∧ ∀ k, Z' k → Z k ∨ w.heap.size ≤ k
theorem LH.below {w w' : World} {hb lim : Nat} {L : List Om} {Z : Nat → Prop} (h : LH w hb lim L Z) (k : Below w.heap.size w w') : LP w hb lim L Z w' := by
  obtain ⟨used, R, os, h1, h2⟩ := h
  exact ⟨Z, ⟨used, R, os, h1.below k, h2⟩, Wx.of_below Z k, fun _ c => Or.inl c⟩
theorem LP.from {w w1 w' : World} {hb lim : Nat} {L : List Om} {Z : Nat → Prop} (k : Below w.heap.size w w1) (h : LP w1 hb lim L Z w') : LP w hb lim L Z w' := by
  obtain ⟨Z', h1, h2, h3⟩ := h
  refine ⟨Z', h1, (Wx.of_below Z k).trans h2 (fun _ c => Or.inl c), fun i hi => ?_⟩
  rcases h3 i hi with c | c
  · exact Or.inl c
  · exact Or.inr (Nat.le_trans k.size c)

theorem atM_map (os : List Ob) (o : Int) : atM (os.map Ob.om) o = if 1 ≤ o ∧ o ≤ os.length then (os[(o - 1).toNat]?).map Ob.om else none := by
  unfold atM
  rw [List.length_map, List.getElem?_map]
theorem tabM_none {w : World} {hb lim used : Nat} {R : Value} {os : List Ob} {Z : Nat → Prop} (h : Hv w hb lim used R os Z) {o : Int} : tabM (os.map Ob.om) o = none ↔ tabOf os o = none := by
  unfold tabM tabOf
  rw [atM_map]
  by_cases c : 1 ≤ o ∧ o ≤ os.length
  · rw [if_pos c, if_pos c]
    cases hx : os[(o - 1).toNat]? with
    | none => simp
    | some x =>
      have hv := h.ob _ x hx
      simp only [Option.map_some, Option.filter_some]
      cases ht : x.tb with
      | none =>
        have hk := (hv.oth ht).1.2
        have : ¬ x.om.k = 5 := hk
        simp [this]
      | some tb =>
        have hk := (hv.tab tb ht).1.1
        have : x.om.k = 5 := hk
        simp [this]
  · rw [if_neg c, if_neg c]; simp
theorem tabM_some {w : World} {hb lim used : Nat} {R : Value} {os : List Ob} {Z : Nat → Prop} (h : Hv w hb lim used R os Z) {o : Int} {m : Om} (hm : tabM (os.map Ob.om) o = some m) :
    ∃ (i tb : Nat) (x : Ob), o = (i : Int) + 1 ∧ (o - 1).toNat = i ∧ os[i]? = some x ∧ x.tb = some tb ∧ m = x.om := by
  cases ht : tabOf os o with
  | none => rw [(tabM_none h).2 ht] at hm; cases hm
  | some x =>
    obtain ⟨i, tb, ho, hi, htb⟩ := tabOf_some ht
    refine ⟨i, tb, x, ho, by omega, hi, htb, ?_⟩
    unfold tabM at hm
    rw [atM_map] at hm
    have hil : i < os.length := by
      rcases Nat.lt_or_ge i os.length with c | c
      · exact c
      · rw [List.getElem?_eq_none c] at hi; cases hi
    rw [if_pos (by omega), show (o - 1).toNat = i by omega, hi] at hm
    simp only [Option.map_some, Option.filter_some] at hm
    split at hm
    · exact (Option.some.inj hm).symm
    · cases hm

theorem isV_k4 (e : En) (k : V4) : isV e.k4 k = decide (e.K = k.K ∧ e.N = k.N ∧ e.S = k.S ∧ e.O = k.O) := rfl
theorem place_none {es : List En} {k : V4} : placeM (es.map En.k4) k = none ↔ ofKey k.K k.N k.S k.O es = none := by
  unfold placeM ofKey
  rw [List.findIdx?_map, List.findIdx?_eq_none_iff, List.find?_eq_none]
  constructor
  · intro h e he
    have h1 : isV e.k4 k = false := h e he
    rw [isV_k4] at h1
    rw [h1]; decide
  · intro h e he
    show isV e.k4 k = false
    rw [isV_k4]
    exact Bool.eq_false_iff.2 (h e he)
theorem place_some {es : List En} {k : V4} {f : En} (h : ofKey k.K k.N k.S k.O es = some f) : ∃ xo yo, es = xo ++ f :: yo ∧ placeM (es.map En.k4) k = some xo.length := by
  unfold ofKey at h
  obtain ⟨h1, xo, yo, h2, h3⟩ := List.find?_eq_some_iff_append.1 h
  refine ⟨xo, yo, h2, ?_⟩
  unfold placeM
  rw [List.findIdx?_map, h2, List.findIdx?_append]
  have hn : List.findIdx? ((fun x => isV x k) ∘ En.k4) xo = none := by
    rw [List.findIdx?_eq_none_iff]
    intro e he
    have h4 := h3 e he
    show isV e.k4 k = false
    rw [isV_k4]
    simpa only [Bool.not_eq_true'] using h4
  rw [hn]
  have hy : isV f.k4 k = true := by rw [isV_k4]; exact h1
  simp [List.findIdx?_cons, hy]

/-- One object becomes another: on lists. -/
theorem om_set (os : List Ob) (i : Nat) (x : Ob) : (os.set i x).map Ob.om = (os.map Ob.om).set i x.om := List.map_set
theorem set_same {α : Type} : ∀ (l : List α) (i : Nat) (x : α), l[i]? = some x → l.set i x = l
  | [], i, x, h => by simp at h
  | p :: l, 0, x, h => by
    simp only [List.getElem?_cons_zero, Option.some.injEq] at h
    subst h; rfl
  | p :: l, i + 1, x, h => by
    rw [List.getElem?_cons_succ] at h
    rw [List.set_cons_succ, set_same l i x h]

theorem map_key_up (l : List En) (b : Nat) (v : V4) : (l.map (upV b v)).map En.k4 = l.map En.k4 := by
  rw [List.map_map]
  refine List.map_congr_left (fun e _ => ?_)
  show (upV b v e).k4 = e.k4
  unfold upV
  split <;> rfl
theorem map_val_out (l : List En) (b : Nat) (v : V4) (h : ∀ e ∈ l, e.b ≠ b) : (l.map (upV b v)).map En.v4 = l.map En.v4 := by
  rw [List.map_map]
  refine List.map_congr_left (fun e he => ?_)
  show (upV b v e).v4 = e.v4
  unfold upV
  rw [if_neg (h e he)]
theorem map_val_up {xo yo : List En} {f : En} (v : V4) (hn : ((xo ++ f :: yo).map En.b).Nodup) : ((xo ++ f :: yo).map (upV f.b v)).map En.v4 = ((xo ++ f :: yo).map En.v4).set xo.length v := by
  rw [List.map_append, List.map_cons] at hn
  have h1 := List.nodup_append.1 hn
  have h2 := List.nodup_cons.1 h1.2.1
  have hx : ∀ e ∈ xo, e.b ≠ f.b := fun e he => h1.2.2 _ (List.mem_map_of_mem he) _ List.mem_cons_self
  have hy : ∀ e ∈ yo, e.b ≠ f.b := fun e he c => h2.1 (by rw [← c]; exact List.mem_map_of_mem he)
  rw [List.map_append, List.map_append, map_val_out xo f.b v hx, List.map_cons, List.map_cons, map_val_out yo f.b v hy, List.map_append, List.map_cons]
  have hl : xo.length = (xo.map En.v4).length := by simp
  rw [hl, List.set_append_right _ _ (Nat.le_refl _), Nat.sub_self, List.set_cons_zero]
  congr 2
  unfold upV
  rw [if_pos rfl]
  rfl
theorem erase_mid {α : Type} (xo yo : List α) (f : α) : (xo ++ f :: yo).eraseIdx xo.length = xo ++ yo := by
  rw [List.eraseIdx_append_of_length_le (Nat.le_refl _), Nat.sub_self]
  rfl

/-- Set, whole. -/
theorem lset_any {w : World} {hb lim : Nat} {L : List Om} {Z : Nat → Prop} (h : LH w hb lim L Z) (o : Int) (k v : V4) (hN : U64 k.N) (hvN : U64 v.N) (hS : k.S.size ≤ 9223372036854775807) :
    Calls Tryz.prog 17 #[.pointer (some ⟨hb, 0, none⟩), .int .i64 o, .agg #[.int .i64 k.K, .int .u64 k.N, .string k.S, .int .i64 k.O], .agg #[.int .i64 v.K, .int .u64 v.N, .string v.S, .int .i64 v.O]] w fun e w' => e = .returned (.int .i64 (setM lim L o k v).1) ∧ LP w hb lim (setM lim L o k v).2 Z w' := by
  obtain ⟨used, R, os, hv, rfl⟩ := h
  have hun : used = usedM (os.map Ob.om) := by rw [used_om]; exact hv.sum
  cases ht : tabM (os.map Ob.om) o with
  | none =>
    have hs : setM lim (os.map Ob.om) o k v = (5, os.map Ob.om) := by unfold setM; rw [ht]
    rw [hs]
    have ht2 := (tabM_none hv).1 ht
    refine (Set_none hv o ht2 k.K k.N k.S k.O v.K v.N v.S v.O).mono ?_
    rintro e w' ⟨rfl, hb1⟩
    exact ⟨rfl, LH.below ⟨used, R, os, hv, rfl⟩ hb1⟩
  | some m =>
    obtain ⟨i, tb, x, ho, hoi, hi, htb, rfl⟩ := tabM_some hv ht
    have htv := ((hv.ob i x hi).tab tb htb).2.1
    by_cases hko : kok k.K k.N = false
    · have hs : setM lim (os.map Ob.om) o k v = (1, os.map Ob.om) := by unfold setM; rw [ht]; simp only; rw [if_pos hko]
      rw [hs]
      refine (Set_no hv hi htb o ho k.K k.N k.S k.O v.K v.N v.S v.O hN hko).mono ?_
      rintro e w' ⟨rfl, hb1⟩
      exact ⟨rfl, LH.below ⟨used, R, os, hv, rfl⟩ hb1⟩
    · have hkt : kok k.K k.N = true := by simpa using hko
      have hkey : keyP (keyV k).K (keyV k).N (keyV k).S (keyV k).O := keyP_y k.S k.O hkt
      have hkN : U64 (keyV k).N := yN_u64 hN
      have hkS : (keyV k).S.size ≤ 9223372036854775807 := yS_size hS
      cases hp : ofKey (keyV k).K (keyV k).N (keyV k).S (keyV k).O x.es with
      | none =>
        have hpl : placeM x.om.ks (keyV k) = none := place_none.2 hp
        by_cases hv0 : nK v.K = 0
        · have hs : setM lim (os.map Ob.om) o k v = (0, os.map Ob.om) := by unfold setM; rw [ht]; simp only; rw [if_neg hko, hpl]; simp only; rw [if_pos hv0]
          rw [hs]
          refine (Set_of hv hi htb o ho k.K k.N k.S k.O v.K v.N v.S v.O hN hvN hkt 0 (fun w' => LP w hb lim (os.map Ob.om) Z w') (fun w1 hb1 => ?_)).mono (fun e w' hh => hh)
          rw [hv0]
          refine (set_nil (hv.below hb1) hi htb _ _ _ _ _ _ _ hkS hp).mono ?_
          rintro e w' ⟨rfl, hb2⟩
          exact ⟨rfl, LH.below ⟨used, R, os, hv, rfl⟩ (hb1.trans (hb2.mono hb1.size)), Wx.of_below Z hb2⟩
        · by_cases hlt : used < lim
          · have hs : setM lim (os.map Ob.om) o k v = (0, (os.map Ob.om).set i { x.om with ks := x.om.ks ++ [keyV k], vs := x.om.vs ++ [norV v] }) := by unfold setM; rw [ht]; simp only; rw [if_neg hko, hpl]; simp only; rw [if_neg hv0, if_pos (by rw [← hun]; exact hlt), hoi]
            rw [hs]
            refine (Set_of hv hi htb o ho k.K k.N k.S k.O v.K v.N v.S v.O hN hvN hkt 0 (fun w' => LP w hb lim ((os.map Ob.om).set i { x.om with ks := x.om.ks ++ [keyV k], vs := x.om.vs ++ [norV v] }) Z w') (fun w1 hb1 => ?_)).mono (fun e w' hh => hh)
            refine (set_add (hv.below hb1) hi htb _ _ _ _ _ _ _ _ hkey hkN hkS hv0 hp hlt).mono ?_
            rintro e w' ⟨rfl, b, X', c1, c2⟩
            refine ⟨rfl, LP.from hb1 ⟨_, ⟨_, _, _, c1, ?_⟩, c2, fun j hj => ?_⟩, c2⟩
            · rw [om_set]
              congr 1
              simp [Ob.om, En.k4, En.v4, keyV, norV]
            · rcases hj with c | c
              · exact Or.inl c
              · exact Or.inr c.1
          · have hs : setM lim (os.map Ob.om) o k v = (2, os.map Ob.om) := by unfold setM; rw [ht]; simp only; rw [if_neg hko, hpl]; simp only; rw [if_neg hv0, if_neg (by rw [← hun]; exact hlt)]
            rw [hs]
            refine (Set_of hv hi htb o ho k.K k.N k.S k.O v.K v.N v.S v.O hN hvN hkt 2 (fun w' => LP w hb lim (os.map Ob.om) Z w') (fun w1 hb1 => ?_)).mono (fun e w' hh => hh)
            refine (set_full (hv.below hb1) hi htb _ _ _ _ _ _ _ _ hkS hv0 hp (by omega)).mono ?_
            rintro e w' ⟨rfl, hb2⟩
            exact ⟨rfl, LH.below ⟨used, R, os, hv, rfl⟩ (hb1.trans (hb2.mono hb1.size)), Wx.of_below Z hb2⟩
      | some f =>
        obtain ⟨xo, yo, hes, hpl⟩ := place_some hp
        have hpl2 : placeM x.om.ks (keyV k) = some xo.length := hpl
        have hfl : ∃ q, x.es[q]? = some f := List.mem_iff_getElem?.1 (by rw [hes]; simp)
        by_cases hv0 : nK v.K = 0
        · have hs : setM lim (os.map Ob.om) o k v = (0, (os.map Ob.om).set i { x.om with ks := x.om.ks.eraseIdx xo.length, vs := x.om.vs.eraseIdx xo.length }) := by unfold setM; rw [ht]; simp only; rw [if_neg hko, hpl2]; simp only; rw [if_pos hv0, hoi]
          rw [hs]
          refine (Set_of hv hi htb o ho k.K k.N k.S k.O v.K v.N v.S v.O hN hvN hkt 0 (fun w' => LP w hb lim ((os.map Ob.om).set i { x.om with ks := x.om.ks.eraseIdx xo.length, vs := x.om.vs.eraseIdx xo.length }) Z w') (fun w1 hb1 => ?_)).mono (fun e w' hh => hh)
          rw [hv0]
          refine (set_drop (hv.below hb1) hi htb _ _ _ _ _ _ _ hkS hp xo yo hes).mono ?_
          rintro e w' ⟨rfl, X', c1, c2⟩
          refine ⟨rfl, LP.from hb1 ⟨_, ⟨_, _, _, c1, ?_⟩, c2, fun j hj => ?_⟩, c2⟩
          · rw [om_set]
            congr 1
            have e1 : x.om.ks = (xo.map En.k4) ++ f.k4 :: (yo.map En.k4) := by simp [Ob.om, hes]
            have e2 : x.om.vs = (xo.map En.v4) ++ f.v4 :: (yo.map En.v4) := by simp [Ob.om, hes]
            rw [e1, e2]
            have l1 : xo.length = (xo.map En.k4).length := by simp
            have l2 : xo.length = (xo.map En.v4).length := by simp
            rw [show ((xo.map En.k4) ++ f.k4 :: (yo.map En.k4)).eraseIdx xo.length = xo.map En.k4 ++ yo.map En.k4 by rw [l1]; exact erase_mid _ _ _, show ((xo.map En.v4) ++ f.v4 :: (yo.map En.v4)).eraseIdx xo.length = xo.map En.v4 ++ yo.map En.v4 by rw [l2]; exact erase_mid _ _ _]
            simp [Ob.om]
          · rcases hj with c | c
            · exact Or.inl c
            · exact Or.inr c.1
        · have hs : setM lim (os.map Ob.om) o k v = (0, (os.map Ob.om).set i { x.om with vs := x.om.vs.set xo.length (norV v) }) := by unfold setM; rw [ht]; simp only; rw [if_neg hko, hpl2]; simp only; rw [if_neg hv0, hoi]
          rw [hs]
          refine (Set_of hv hi htb o ho k.K k.N k.S k.O v.K v.N v.S v.O hN hvN hkt 0 (fun w' => LP w hb lim ((os.map Ob.om).set i { x.om with vs := x.om.vs.set xo.length (norV v) }) Z w') (fun w1 hb1 => ?_)).mono (fun e w' hh => hh)
          refine (set_over (hv.below hb1) hi htb _ _ _ _ _ _ _ _ hkS hv0 hp).mono ?_
          rintro e w' ⟨rfl, c1, c2⟩
          refine ⟨rfl, LP.from hb1 ⟨_, ⟨_, _, _, c1, ?_⟩, c2, fun j hj => ?_⟩, c2⟩
          · rw [om_set]
            congr 1
            have hon := htv.ord.once
            rw [hes] at hon
            have e2 := map_val_up (norV v) hon
            have e1 := map_key_up (xo ++ f :: yo) f.b (norV v)
            show Om.mk _ _ _ _ _ _ _ = _
            simp only [Ob.om]
            rw [hes]
            congr 1
          · rcases hj with c | c
            · exact Or.inl c
            · exact Or.inr c.1

end Go.Proofs.YthmocdabakkfhaaGreatDoor
