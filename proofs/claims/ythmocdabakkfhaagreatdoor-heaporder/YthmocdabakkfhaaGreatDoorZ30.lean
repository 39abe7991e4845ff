/-
  HpNext
-/
import Derived.Test.YthmocdabakkfhaaGreatDoorZ29

/-
  Layer 9: the landed heap's Next, Size, by lists.
-/
namespace Go.Proofs.YthmocdabakkfhaaGreatDoor
set_option maxRecDepth 100000
open Go.RowKit Flo

/-- The key behind one, its value, the error, by lists. -/
def nextM (L : List Om) (o : Int) (k : V4) : V4 × V4 × Int := match tabM L o with
  | none => (V0, V0, 5)
  | some x => if nK k.K = 0 then ((x.ks[0]?).getD V0, (x.vs[0]?).getD V0, 0) else
    match (if kok k.K k.N = true then placeM x.ks (keyV k) else none) with
    | none => (V0, V0, 5)
    | some j => ((x.ks[j + 1]?).getD V0, (x.vs[j + 1]?).getD V0, 0)
/-- What Next makes first: the key, two zero values. -/
structure N3 (w wx : World) (k : V4) : Prop where
  k0 : wx.cell? ⟨w.heap.size, 0, none⟩ = some (.int .i64 k.K)
  k1 : wx.cell? ⟨w.heap.size, 1, none⟩ = some (.int .u64 k.N)
  k2 : wx.cell? ⟨w.heap.size, 2, none⟩ = some (.string k.S)
  k3 : wx.cell? ⟨w.heap.size, 3, none⟩ = some (.int .i64 k.O)
  a0 : wx.cell? ⟨w.heap.size + 1, 0, none⟩ = some (.int .i64 0)
  a1 : wx.cell? ⟨w.heap.size + 1, 1, none⟩ = some (.int .u64 0)
  a2 : wx.cell? ⟨w.heap.size + 1, 2, none⟩ = some (.string ⟨#[]⟩)
  a3 : wx.cell? ⟨w.heap.size + 1, 3, none⟩ = some (.int .i64 0)
  b0 : wx.cell? ⟨w.heap.size + 1 + 1, 0, none⟩ = some (.int .i64 0)
  b1 : wx.cell? ⟨w.heap.size + 1 + 1, 1, none⟩ = some (.int .u64 0)
  b2 : wx.cell? ⟨w.heap.size + 1 + 1, 2, none⟩ = some (.string ⟨#[]⟩)
  b3 : wx.cell? ⟨w.heap.size + 1 + 1, 3, none⟩ = some (.int .i64 0)
  fk : ∀ q, wx.frozen? ⟨w.heap.size, q, none⟩ = false
  fa : ∀ q, wx.frozen? ⟨w.heap.size + 1, q, none⟩ = false
  fb : ∀ q, wx.frozen? ⟨w.heap.size + 1 + 1, q, none⟩ = false
  sz : w.heap.size + 3 ≤ wx.heap.size
  hb : Below w.heap.size w wx
theorem N3.below {w wx wy : World} {k : V4} (h : N3 w wx k) (hb : Below wx.heap.size wx wy) : N3 w wy k := by
  have hs := h.sz
  obtain ⟨k0, k1, k2, k3⟩ := keep4 ⟨h.k0, h.k1, h.k2, h.k3⟩ hb
  obtain ⟨a0, a1, a2, a3⟩ := keep4 ⟨h.a0, h.a1, h.a2, h.a3⟩ hb
  obtain ⟨b0, b1, b2, b3⟩ := keep4 ⟨h.b0, h.b1, h.b2, h.b3⟩ hb
  exact ⟨k0, k1, k2, k3, a0, a1, a2, a3, b0, b1, b2, b3, fun q => (hb.frozen (by simp; omega)).trans (h.fk q), fun q => (hb.frozen (by simp; omega)).trans (h.fa q), fun q => (hb.frozen (by simp; omega)).trans (h.fb q), Nat.le_trans hs hb.size, h.hb.trans (hb.mono (by omega))⟩
theorem N3.drew {w wx : World} {k : V4} (h : N3 w wx k) : N3 w wx.drew k := h.below (Below.refl _ _).drew
theorem n3_first (w : World) (k : V4) : N3 w (((w.alloc (.cells #[.int .i64 k.K, .int .u64 k.N, .string k.S, .int .i64 k.O] 37)).alloc (.cells #[.int .i64 0, .int .u64 0, .string ⟨#[]⟩, .int .i64 0] 37)).alloc (.cells #[.int .i64 0, .int .u64 0, .string ⟨#[]⟩, .int .i64 0] 37)) k := by
  refine ⟨?_, ?_, ?_, ?_, ?_, ?_, ?_, ?_, ?_, ?_, ?_, ?_, fun q => ?_, fun q => ?_, fun q => ?_, ?_, ((((Below.refl _ _).alloc (Nat.le_refl _) _).alloc (by simp) _).alloc (by simp; omega) _)⟩
  all_goals first
    | go_simp
    | (simp; done)
theorem no_zero {es : List En} (h : ∀ e ∈ es, keyOk e) : ofKey 0 0 ⟨#[]⟩ 0 es = none := by
  unfold ofKey
  rw [List.find?_eq_none]
  intro e he c
  have c1 := (of_decide_eq_true c).1
  have h1 := (h e he).1
  rw [c1] at h1
  unfold kok at h1
  rw [show nK 0 = 0 by decide] at h1
  simp at h1
theorem set42 {B b : Nat} {W w1 : World} (h : Below B W w1) (hb : B ≤ b) (v0 v1 v2 v3 u0 u1 u2 u3 : Value) :
    Below B W ((((((((w1.setCell ⟨b, 0, none⟩ v0).setCell ⟨b, 1, none⟩ v1).setCell ⟨b, 2, none⟩ v2).setCell ⟨b, 3, none⟩ v3).setCell ⟨b + 1, 0, none⟩ u0).setCell ⟨b + 1, 1, none⟩ u1).setCell ⟨b + 1, 2, none⟩ u2).setCell ⟨b + 1, 3, none⟩ u3) :=
  set41 (set41 h hb _ _ _ _) (by omega) _ _ _ _

theorem fieldK (k n o : Int) (s : ByteArray) (w : World) : Sem.run Tryz.prog (Instr.field 37 (.agg #[.int .i64 k, .int .u64 n, .string s, .int .i64 o]) 0) w = .ok (.int .i64 k) w := by kernel_rfl
/-- The first of a list of entries: its key, its value. -/
def frontV : List En → V4 × V4
  | [] => (V0, V0)
  | e :: _ => (e.k4, e.v4)
theorem front_at (xo yo : List En) : (((xo ++ yo).map En.k4)[xo.length]?).getD V0 = (frontV yo).1 ∧ (((xo ++ yo).map En.v4)[xo.length]?).getD V0 = (frontV yo).2 := by
  rw [List.map_append, List.map_append, List.getElem?_append_right (by simp), List.getElem?_append_right (by simp)]
  cases yo with
  | nil => simp [frontV]
  | cons e r => simp [frontV]
theorem Tv.enc {w : World} {tb : Nat} {X : Nat → Prop} {es : List En} {M : V4} (h : Tv w tb X es M) : ∀ e ∈ es, EnC w e := by
  intro e he
  rcases h.bod with ⟨e0, _⟩ | ⟨g, n, c, m, cs, W, s, t⟩
  · rw [e0] at he; cases he
  · exact (t.kb.lies e he).1
theorem next_nil {w : World} {hb lim used : Nat} {R : Value} {os : List Ob} {Z : Nat → Prop} (h : Hv w hb lim used R os Z) {o : Int} {x : Ob} (hx : tabOf os o = some x) (k : V4) (c0 : nK k.K = 0) :
    nextM (os.map Ob.om) o k = ((frontV x.es).1, (frontV x.es).2, 0) := by
  unfold nextM
  rw [tabM_of h hx]
  simp only
  rw [if_pos c0]
  obtain ⟨p, q⟩ := front_at [] x.es
  show (((x.es.map En.k4)[0]?).getD V0, ((x.es.map En.v4)[0]?).getD V0, (0 : Int)) = _
  simp only [List.nil_append, List.length_nil] at p q
  rw [p, q]
theorem next_key {w : World} {hb lim used : Nat} {R : Value} {os : List Ob} {Z : Nat → Prop} (h : Hv w hb lim used R os Z) {o : Int} {x : Ob} (hx : tabOf os o = some x) (k : V4) (c0 : ¬ nK k.K = 0) :
    (ofKey (yK k.K k.N) (yN k.K k.N) (yS k.K k.N k.S) (yO k.K k.N k.O) x.es = none → nextM (os.map Ob.om) o k = (V0, V0, 5)) ∧
    ∀ f, ofKey (yK k.K k.N) (yN k.K k.N) (yS k.K k.N k.S) (yO k.K k.N k.O) x.es = some f → ∃ xo yo, x.es = xo ++ f :: yo ∧ nextM (os.map Ob.om) o k = ((frontV yo).1, (frontV yo).2, 0) := by
  obtain ⟨i, tb, ho, hi, ht⟩ := tabOf_some hx
  have hko := ((h.ob i x hi).tab tb ht).2.2
  unfold nextM
  rw [tabM_of h hx]
  simp only
  rw [if_neg c0]
  by_cases hk : kok k.K k.N = true
  · rw [if_pos hk]
    refine ⟨fun e => ?_, fun f e => ?_⟩
    · have := (place_none (k := keyV k)).2 e
      show (match placeM (x.es.map En.k4) (keyV k) with
        | none => _
        | some j => _) = _
      rw [this]
    · obtain ⟨xo, yo, h1, h2⟩ := place_some (k := keyV k) e
      refine ⟨xo, yo, h1, ?_⟩
      show (match placeM (x.es.map En.k4) (keyV k) with
        | none => _
        | some j => (((x.es.map En.k4)[j + 1]?).getD V0, ((x.es.map En.v4)[j + 1]?).getD V0, (0 : Int))) = _
      rw [h2]
      obtain ⟨p, q⟩ := front_at (xo ++ [f]) yo
      simp only [List.append_assoc, List.singleton_append, List.length_append, List.length_singleton] at p q
      simp only [h1]
      rw [p, q]
  · rw [if_neg hk]
    obtain ⟨z0, z1, z2, z3⟩ := key_zero (K := k.K) (N := k.N) k.S k.O (by simpa using hk)
    rw [z0, z1, z2, z3, no_zero hko]
    exact ⟨fun _ => rfl, fun f e => by cases e⟩

set_option maxHeartbeats 4000000 in
theorem next_hv {w : World} {hb lim used : Nat} {R : Value} {os : List Ob} {Z : Nat → Prop} (h : Hv w hb lim used R os Z) (o : Int) (k : V4) (hN : U64 k.N) (hS : k.S.size ≤ 9223372036854775807) :
    Calls Tryz.prog 8 #[.pointer (some ⟨hb, 0, none⟩), .int .i64 o, .agg #[.int .i64 k.K, .int .u64 k.N, .string k.S, .int .i64 k.O]] w fun e w' => e = .returned (.tuple #[.agg #[.int .i64 (nextM (os.map Ob.om) o k).1.K, .int .u64 (nextM (os.map Ob.om) o k).1.N, .string (nextM (os.map Ob.om) o k).1.S, .int .i64 (nextM (os.map Ob.om) o k).1.O], .agg #[.int .i64 (nextM (os.map Ob.om) o k).2.1.K, .int .u64 (nextM (os.map Ob.om) o k).2.1.N, .string (nextM (os.map Ob.om) o k).2.1.S, .int .i64 (nextM (os.map Ob.om) o k).2.1.O], .int .i64 (nextM (os.map Ob.om) o k).2.2]) ∧ Below w.heap.size w w' := by
  have HN3 : Hid _ := n3_first w k
  have HT := tableOf_hv (h.below HN3.out.hb) o
  have HNo : Hid (∀ w, Calls Tryz.prog 22 #[.agg #[.int .i64 k.K, .int .u64 k.N, .string k.S, .int .i64 k.O]] w fun e w' => e = .returned (.agg #[.int .i64 (nK k.K), .int .u64 (nN k.K k.N), .string (nS k.K k.S), .int .i64 (nO k.K k.O)]) ∧ Below w.heap.size w w') := fun w => normal_any k.K k.N k.S k.O w hN
  have HK : Hid (∀ w, Calls Tryz.prog 23 #[.agg #[.int .i64 k.K, .int .u64 k.N, .string k.S, .int .i64 k.O]] w fun e w' => e = .returned (.tuple #[.agg #[.int .i64 (yK k.K k.N), .int .u64 (yN k.K k.N), .string (yS k.K k.N k.S), .int .i64 (yO k.K k.N k.O)], .bool (kok k.K k.N)]) ∧ Below w.heap.size w w') := fun w => key_any k.K k.N k.S k.O w hN
  unfold ptrOf at HT
  cases hx : tabOf os o with
  | none =>
    rw [hx] at HT
    simp only [Option.bind_none] at HT
    have HR : Hid (nextM (os.map Ob.om) o k = (V0, V0, 5)) := by show _ = _; unfold nextM; rw [(tabM_none h).2 hx]
    clear h hx HK HNo
    go_enter Tryz.func8, Tryz.ntmps8
    go_wp2_with fail
    refine HT.mono ?_
    rintro e w1 ⟨rfl, hw1⟩
    rw [← hw1] at HN3
    clear HT hw1
    obtain ⟨k0, k1, k2, k3, a0, a1, a2, a3, b0, b1, b2, b3, fk, fa, fb, hsz, -⟩ := HN3.out
    go_wp2
    rw [HR.out]
    exact bodyPost_ret (v := .tuple #[.agg #[.int .i64 0, .int .u64 0, .string ⟨#[]⟩, .int .i64 0], .agg #[.int .i64 0, .int .u64 0, .string ⟨#[]⟩, .int .i64 0], .int .i64 5]) (by simp [results, Tryz.results8, go_sem, a0, a1, a2, a3, b0, b1, b2, b3]) rfl ⟨rfl, set42 HN3.out.hb (by omega) _ _ _ _ _ _ _ _⟩
  | some x =>
    obtain ⟨i, tb, ho, hi, ht⟩ := tabOf_some hx
    rw [hx] at HT
    rw [show (some x).bind Ob.ptr = some ⟨tb, 0, none⟩ by simp [Ob.ptr, ht]] at HT
    have HTV : Hid (∀ w', Below w.heap.size w w' → Tv w' tb x.X x.es x.M) := fun w' hb => (((h.below hb).ob i x hi).tab tb ht).2.1
    have HLT : Hid (∀ e ∈ x.es, e.b < w.heap.size) := fun e he => (((h.ob i x hi).tab tb ht).2.1).lt _ ((((h.ob i x hi).tab tb ht).2.1).ent e he).1
    have htbl : tb < w.heap.size := (((h.ob i x hi).tab tb ht).2.1).lt _ (((h.ob i x hi).tab tb ht).2.1).own
    by_cases c0 : nK k.K = 0
    · have HR := hide_p (next_nil h hx k c0)
      rw [c0] at HNo
      generalize nextM (os.map Ob.om) o k = RES at *
      generalize x.es = es at *
      clear h hx HK c0 ho hi ht
      go_enter Tryz.func8, Tryz.ntmps8
      go_wp2_with fail
      refine HT.mono ?_
      rintro e w1 ⟨rfl, hw1⟩
      rw [← hw1] at HN3
      clear HT hw1
      have c5 : w1.cell? ⟨tb, 5, none⟩ = some (hd es) := (HTV.out _ HN3.out.hb).ord.first
      obtain ⟨k0, k1, k2, k3, a0, a1, a2, a3, b0, b1, b2, b3, fk, fa, fb, hsz, -⟩ := HN3.out
      go_wp2_with fail
      refine (HNo.out _).mono ?_
      rintro e w2 ⟨rfl, hb2⟩
      replace HN3 := hide_p (HN3.out.below hb2)
      have HEN : Hid (∀ e ∈ es, EnC w2 e ∧ e.b < w.heap.size) := fun e he => ⟨(HTV.out _ HN3.out.hb).enc e he, HLT.out e he⟩
      clear k0 k1 k2 k3 a0 a1 a2 a3 b0 b1 b2 b3 fk fa fb hsz hb2 c5 HNo HTV HLT
      have hfd := fieldK 0 (nN k.K k.N) (nO k.K k.O) (nS k.K k.S)
      cases hl : es with
      | nil =>
        rw [hl] at HR
        rw [show hd [] = Value.pointer none from rfl]
        obtain ⟨k0, k1, k2, k3, a0, a1, a2, a3, b0, b1, b2, b3, fk, fa, fb, hsz, -⟩ := HN3.out
        go_wp2
        rw [HR.out]
        exact bodyPost_ret (v := .tuple #[.agg #[.int .i64 0, .int .u64 0, .string ⟨#[]⟩, .int .i64 0], .agg #[.int .i64 0, .int .u64 0, .string ⟨#[]⟩, .int .i64 0], .int .i64 0]) (by simp [results, Tryz.results8, go_sem, a0, a1, a2, a3, b0, b1, b2, b3]) rfl ⟨rfl, set42 HN3.out.hb (by omega) _ _ _ _ _ _ _ _⟩
      | cons y ys =>
        rw [hl] at HR
        rw [show hd (y :: ys) = Value.pointer (some ⟨y.b, 0, none⟩) from rfl]
        obtain ⟨⟨e0, e1, e2, e3, e4, e5, e6, e7, _⟩, hyl⟩ := HEN.out y (by rw [hl]; simp)
        obtain ⟨k0, k1, k2, k3, a0, a1, a2, a3, b0, b1, b2, b3, fk, fa, fb, hsz, -⟩ := HN3.out
        have hny1 : ¬ y.b = w.heap.size + 1 := by omega
        have hny2 : ¬ y.b = w.heap.size + 1 + 1 := by omega
        go_wp2_with fail
        clear HEN hl
        go_region
        all_goals
          go_wp2
          rw [HR.out]
          exact bodyPost_ret (v := .tuple #[.agg #[.int .i64 y.K, .int .u64 y.N, .string y.S, .int .i64 y.O], .agg #[.int .i64 y.vK, .int .u64 y.vN, .string y.vS, .int .i64 y.vO], .int .i64 0]) (by simp [results, Tryz.results8, go_sem, a0, a1, a2, a3, b0, b1, b2, b3]) rfl ⟨rfl, by repeat' (first | with_reducible exact HN3.out.hb | with_reducible apply Below.drew | with_reducible refine Below.setCell ?_ ?_ _ | omega | (simp; omega) | (simp; done))⟩
    · have HC := hide_p (next_key h hx k c0)
      have HSY : Hid ((yS k.K k.N k.S).size ≤ 9223372036854775807) := by
        show (yS k.K k.N k.S).size ≤ _
        unfold yS nS
        split
        · split
          · exact hS
          · exact Nat.zero_le _
        · exact Nat.zero_le _
      have HF : Hid (∀ w', Below w.heap.size w w' → Calls Tryz.prog 24 #[.pointer (some ⟨tb, 0, none⟩), .agg #[.int .i64 (yK k.K k.N), .int .u64 (yN k.K k.N), .string (yS k.K k.N k.S), .int .i64 (yO k.K k.N k.O)], .int .u64 (hZ (yK k.K k.N) (yN k.K k.N) (yS k.K k.N k.S) (yO k.K k.N k.O))] w' fun e w2 => e = .returned (fndP (ofKey (yK k.K k.N) (yN k.K k.N) (yS k.K k.N k.S) (yO k.K k.N k.O) x.es)) ∧ Below w'.heap.size w' w2) := fun w' hb => tab_find (HTV.out w' hb) _ _ _ _
      have HH : Hid (∀ w', Calls Tryz.prog 25 #[.agg #[.int .i64 (yK k.K k.N), .int .u64 (yN k.K k.N), .string (yS k.K k.N k.S), .int .i64 (yO k.K k.N k.O)]] w' fun e w2 => e = .returned (.int .u64 (hZ (yK k.K k.N) (yN k.K k.N) (yS k.K k.N k.S) (yO k.K k.N k.O))) ∧ Below w'.heap.size w' w2) := fun w' => hash_any _ _ _ _ w' HSY.out
      generalize nextM (os.map Ob.om) o k = RES at *
      clear h hx HSY ho hi ht
      generalize ofKey (yK k.K k.N) (yN k.K k.N) (yS k.K k.N k.S) (yO k.K k.N k.O) x.es = OF at *
      generalize hZ (yK k.K k.N) (yN k.K k.N) (yS k.K k.N k.S) (yO k.K k.N k.O) = HZ at *
      generalize yK k.K k.N = YK at *
      generalize yN k.K k.N = YN at *
      generalize yS k.K k.N k.S = YS at *
      generalize yO k.K k.N k.O = YO at *
      generalize kok k.K k.N = ko at *
      generalize x.es = es at *
      generalize nK k.K = NK at *
      go_enter Tryz.func8, Tryz.ntmps8
      go_wp2_with fail
      refine HT.mono ?_
      rintro e w1 ⟨rfl, hw1⟩
      rw [← hw1] at HN3
      clear HT hw1
      have c5 : w1.cell? ⟨tb, 5, none⟩ = some (hd es) := (HTV.out _ HN3.out.hb).ord.first
      obtain ⟨k0, k1, k2, k3, a0, a1, a2, a3, b0, b1, b2, b3, fk, fa, fb, hsz, -⟩ := HN3.out
      go_wp2_with fail
      refine (HNo.out _).mono ?_
      rintro e w2 ⟨rfl, hb2⟩
      replace HN3 := hide_p (HN3.out.below hb2)
      clear k0 k1 k2 k3 a0 a1 a2 a3 b0 b1 b2 b3 fk fa fb hsz hb2 c5 HNo
      have hfd := fieldK NK (nN k.K k.N) (nO k.K k.O) (nS k.K k.S)
      obtain ⟨k0, k1, k2, k3, a0, a1, a2, a3, b0, b1, b2, b3, fk, fa, fb, hsz, -⟩ := HN3.out
      go_wp2_with fail
      refine (HK.out _).mono ?_
      rintro e w3 ⟨rfl, hb3⟩
      replace HN3 := hide_p (HN3.out.below hb3)
      clear k0 k1 k2 k3 a0 a1 a2 a3 b0 b1 b2 b3 fk fa fb hsz hb3 HK hfd c0
      obtain ⟨k0, k1, k2, k3, a0, a1, a2, a3, b0, b1, b2, b3, fk, fa, fb, hsz, -⟩ := HN3.out
      go_wp2_with fail
      have hs3 := HN3.out.hb.size
      go_region_held3 (fun w' => w'.cell? ⟨w3.heap.size, 0, none⟩ = some (.int .i64 YK) ∧ w'.cell? ⟨w3.heap.size, 1, none⟩ = some (.int .u64 YN) ∧ w'.cell? ⟨w3.heap.size, 2, none⟩ = some (.string YS) ∧ w'.cell? ⟨w3.heap.size, 3, none⟩ = some (.int .i64 YO))
        (first
          | go_keep
          | exact keep4 (by assumption) hb5
          | exact keep4 (by assumption) hb4)
        (first
          | (go_at_call 25; refine (HH.out _).mono ?_; rintro e w4 ⟨rfl, hb4⟩)
          | (go_at_call 24; have hb34 : Below w3.heap.size w3 w4 := ((Below.refl _ w3).alloc (Nat.le_refl _) _).trans ((below_undrew hb4).mono (by simp)); refine (HF.out _ (HN3.out.hb.trans (hb34.mono hs3))).mono ?_; rintro e w5 ⟨rfl, hb5⟩; have HN5 : Hid (N3 w w5 k) := HN3.out.below (hb34.trans (hb5.mono hb34.size))))
      clear k0 k1 k2 k3 a0 a1 a2 a3 b0 b1 b2 b3 fk fa fb hsz HN3 hs3 HH HF hb34 hb4 hb5
      rename Hid (N3 w w5 k) => HN3
      cases OF with
      | none =>
        have HR := hide_p (HC.out.1 rfl)
        rw [show fndP none = Value.pointer none from rfl]
        obtain ⟨k0, k1, k2, k3, a0, a1, a2, a3, b0, b1, b2, b3, fk, fa, fb, hsz, -⟩ := HN3.out
        go_wp2
        rw [HR.out]
        exact bodyPost_ret (v := .tuple #[.agg #[.int .i64 0, .int .u64 0, .string ⟨#[]⟩, .int .i64 0], .agg #[.int .i64 0, .int .u64 0, .string ⟨#[]⟩, .int .i64 0], .int .i64 5]) (by simp [results, Tryz.results8, go_sem, a0, a1, a2, a3, b0, b1, b2, b3]) rfl ⟨rfl, set42 HN3.out.hb (by omega) _ _ _ _ _ _ _ _⟩
      | some f =>
        obtain ⟨xo, yo, hes, hr⟩ := HC.out.2 f rfl
        have HR := hide_p hr
        rw [show fndP (some f) = Value.pointer (some ⟨f.b, 0, none⟩) from rfl]
        have c11 : w5.cell? ⟨f.b, 11, none⟩ = some (hd yo) := by
          have h11 := (HTV.out _ HN3.out.hb).ord.behind
          rw [hes] at h11
          exact (Lk.tail h11).1
        have HEN : Hid (∀ e ∈ yo, EnC w5 e ∧ e.b < w.heap.size) := fun e he => ⟨(HTV.out _ HN3.out.hb).enc e (by rw [hes]; simp [he]), HLT.out e (by rw [hes]; simp [he])⟩
        clear HC hr HTV HLT hes
        cases hl : yo with
        | nil =>
          rw [hl] at HR
          rw [hl] at c11; have hdl := (show hd [] = Value.pointer none from rfl); rw [hdl] at c11
          obtain ⟨k0, k1, k2, k3, a0, a1, a2, a3, b0, b1, b2, b3, fk, fa, fb, hsz, -⟩ := HN3.out
          go_wp2
          rw [HR.out]
          exact bodyPost_ret (v := .tuple #[.agg #[.int .i64 0, .int .u64 0, .string ⟨#[]⟩, .int .i64 0], .agg #[.int .i64 0, .int .u64 0, .string ⟨#[]⟩, .int .i64 0], .int .i64 0]) (by simp [results, Tryz.results8, go_sem, a0, a1, a2, a3, b0, b1, b2, b3]) rfl ⟨rfl, set42 HN3.out.hb (by omega) _ _ _ _ _ _ _ _⟩
        | cons y ys =>
          rw [hl] at HR
          rw [hl] at c11; have hdl := (show hd (y :: ys) = Value.pointer (some ⟨y.b, 0, none⟩) from rfl); rw [hdl] at c11
          obtain ⟨⟨e0, e1, e2, e3, e4, e5, e6, e7, _⟩, hyl⟩ := HEN.out y (by rw [hl]; simp)
          obtain ⟨k0, k1, k2, k3, a0, a1, a2, a3, b0, b1, b2, b3, fk, fa, fb, hsz, -⟩ := HN3.out
          have hny1 : ¬ y.b = w.heap.size + 1 := by omega
          have hny2 : ¬ y.b = w.heap.size + 1 + 1 := by omega
          go_wp2_with fail
          clear HEN hl
          go_region
          all_goals
            go_wp2
            rw [HR.out]
            exact bodyPost_ret (v := .tuple #[.agg #[.int .i64 y.K, .int .u64 y.N, .string y.S, .int .i64 y.O], .agg #[.int .i64 y.vK, .int .u64 y.vN, .string y.vS, .int .i64 y.vO], .int .i64 0]) (by simp [results, Tryz.results8, go_sem, a0, a1, a2, a3, b0, b1, b2, b3]) rfl ⟨rfl, by repeat' (first | with_reducible exact HN3.out.hb | with_reducible apply Below.drew | with_reducible refine Below.setCell ?_ ?_ _ | omega | (simp; omega) | (simp; done))⟩

theorem lnext_any {w : World} {hb lim : Nat} {L : List Om} {Z : Nat → Prop} (h : LH w hb lim L Z) (o : Int) (k : V4) (hN : U64 k.N) (hS : k.S.size ≤ 9223372036854775807) :
    Calls Tryz.prog 8 #[.pointer (some ⟨hb, 0, none⟩), .int .i64 o, .agg #[.int .i64 k.K, .int .u64 k.N, .string k.S, .int .i64 k.O]] w fun e w' => e = .returned (.tuple #[.agg #[.int .i64 (nextM L o k).1.K, .int .u64 (nextM L o k).1.N, .string (nextM L o k).1.S, .int .i64 (nextM L o k).1.O], .agg #[.int .i64 (nextM L o k).2.1.K, .int .u64 (nextM L o k).2.1.N, .string (nextM L o k).2.1.S, .int .i64 (nextM L o k).2.1.O], .int .i64 (nextM L o k).2.2]) ∧ Below w.heap.size w w' := by
  obtain ⟨used, R, os, hv, rfl⟩ := h
  exact next_hv hv o k hN hS

end Go.Proofs.YthmocdabakkfhaaGreatDoor
