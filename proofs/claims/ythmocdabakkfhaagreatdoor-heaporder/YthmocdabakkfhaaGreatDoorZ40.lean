/-
  HpLists
-/
import Derived.Test.YthmocdabakkfhaaGreatDoorZ39

/-
  Layer 9: the landed table's lists.
-/
namespace Go.Proofs.YthmocdabakkfhaaGreatDoor
set_option maxRecDepth 100000
open Go.RowKit Flo

theorem make_run (i1 : TypeInfo) (hi1 : Tryz.prog.info? 37 = some i1) (hz : i1.zero = some (.agg #[.int .i64 0, .int .u64 0, .string ⟨#[]⟩, .int .i64 0])) (hsz : i1.size = 4) (hby : i1.bytes = 40) (n : Nat) (hn : n ≤ 1048576) (w : World) :
    (Instr.makeSlice 33 (.int .i64 0) (.int .i64 (n : Int))).run Tryz.prog w = .ok (.slice (some ⟨w.heap.size, 0, none⟩) 0 n) (w.alloc (.cells (madeCells #[.int .i64 0, .int .u64 0, .string ⟨#[]⟩, .int .i64 0] (n * 4)) 37)) := by
  have hr := run_make (P := Tryz.prog) (w := w) 33 37 i1 _ Tryz.underlying33 hi1 hz .i64 .i64 0 (n : Int) (by omega) (by omega) (by rw [hby]; omega) (by omega)
  simp only [Int.toNat_natCast, hsz] at hr
  exact hr

/-- Two rows in blocks of their own, in the midst of a statement. -/
structure W2 (B : Nat) (W w : World) (PA PB : (Nat → Prop) → World → Prop) : Prop where
  low : Below B W w
  le : B ≤ w.heap.size
  ex : ∃ XA XB : Nat → Prop, (∀ k, XA k → ¬ XB k) ∧ (∀ k, XA k ∨ XB k → B ≤ k ∧ k < w.heap.size) ∧ PA XA w ∧ PB XB w
theorem W2.stepA {B : Nat} {W w w' : World} {PA PB PA' : (Nat → Prop) → World → Prop} (h : W2 B W w PA PB) (lB : Lcl PB)
    (hs : ∀ X : Nat → Prop, PA X w → (∀ k, X k → B ≤ k ∧ k < w.heap.size) → Wx X w w' ∧ PA' (fun k => X k ∨ (w.heap.size ≤ k ∧ k < w'.heap.size)) w') : W2 B W w' PA' PB := by
  obtain ⟨XA, XB, h1, h2, h3, h4⟩ := h.ex
  obtain ⟨hx, hp⟩ := hs XA h3 (fun k hk => h2 k (Or.inl hk))
  have hsz := hx.size
  have hle := h.le
  refine ⟨h.low.trans (hx.below (fun k hk => (h2 k (Or.inl hk)).1) h.le), by omega, fun k => XA k ∨ (w.heap.size ≤ k ∧ k < w'.heap.size), XB, fun k hk hb => ?_, fun k hk => ?_, hp, ?_⟩
  · rcases hk with c | c
    · exact h1 k c hb
    · have := (h2 k (Or.inr hb)).2; omega
  · rcases hk with (c | c) | c
    · have := h2 k (Or.inl c); omega
    · omega
    · have := h2 k (Or.inr c); omega
  · exact lB XB XB w w' h4 (fun k hk => (h2 k (Or.inr hk)).2) (fun k hk => hx.block k (h2 k (Or.inr hk)).2 (fun c => h1 k c hk)) (fun _ c => c)
theorem W2.turn {B : Nat} {W w : World} {PA PB : (Nat → Prop) → World → Prop} (h : W2 B W w PA PB) : W2 B W w PB PA := by
  obtain ⟨XA, XB, h1, h2, h3, h4⟩ := h.ex
  exact ⟨h.low, h.le, XB, XA, fun k a b => h1 k b a, fun k hk => h2 k hk.symm, h4, h3⟩
theorem W2.stepB {B : Nat} {W w w' : World} {PA PB PB' : (Nat → Prop) → World → Prop} (h : W2 B W w PA PB) (lA : Lcl PA)
    (hs : ∀ X : Nat → Prop, PB X w → (∀ k, X k → B ≤ k ∧ k < w.heap.size) → Wx X w w' ∧ PB' (fun k => X k ∨ (w.heap.size ≤ k ∧ k < w'.heap.size)) w') : W2 B W w' PA PB' :=
  (h.turn.stepA lA hs).turn
theorem W2.drew {B : Nat} {W w : World} {PA PB : (Nat → Prop) → World → Prop} (h : W2 B W w PA PB) (lA : Lcl PA) (lB : Lcl PB) : W2 B W w.drew PA PB := by
  obtain ⟨XA, XB, h1, h2, h3, h4⟩ := h.ex
  exact ⟨h.low.drew, h.le, XA, XB, h1, h2, lA XA XA w w.drew h3 (fun k hk => (h2 k (Or.inl hk)).2) (fun _ _ => rfl) (fun _ c => c), lB XB XB w w.drew h4 (fun k hk => (h2 k (Or.inr hk)).2) (fun _ _ => rfl) (fun _ c => c)⟩
/-- Two rows that were just made. -/
theorem w2_made (w : World) (n : Nat) (hn : n ≤ 1048576) (cs1 cs2 : Array Value) (h1 : cs1.size = n * 4) (h2 : cs2.size = n * 4) :
    W2 w.heap.size w ((w.alloc (.cells cs1 37)).alloc (.cells cs2 37)) (RowIn w.heap.size (.slice (some ⟨w.heap.size, 0, none⟩) 0 n) []) (RowIn w.heap.size (.slice (some ⟨w.heap.size + 1, 0, none⟩) 0 n) []) := by
  have hm : n ≤ maxLen := by unfold maxLen; omega
  have r1 := World.ownsRow_made (base := w.heap.size) (e := 37) (size := 4) w cs1 n (Nat.le_refl _) hm h1
  have r2 := World.ownsRow_made (base := w.heap.size) (e := 37) (size := 4) (w.alloc (.cells cs1 37)) cs2 n (by simp) hm h2
  refine ⟨((Below.refl _ _).alloc (Nat.le_refl _) _).alloc (by simp) _, by simp; omega, fun k => k = w.heap.size, fun k => k = w.heap.size + 1, fun k a b => by omega, fun k hk => by simp; omega, ⟨r1.alloc _, fun g hg => by simp [Value.ownBlock] at hg; omega⟩, ⟨by simpa [vC] using r2, fun g hg => by simp [Value.ownBlock] at hg; omega⟩⟩

set_option maxHeartbeats 4000000 in
theorem lists_any {w : World} {tb : Nat} {X : Nat → Prop} {es : List En} {M : V4} (h : Tv w tb X es M) :
    Calls Tryz.prog 47 #[.pointer (some ⟨tb, 0, none⟩)] w fun e w' => ∃ r1 r2, e = .returned (.tuple #[r1, r2]) ∧ W2 w.heap.size w w' (RowIn w.heap.size r1 (es.map En.k4)) (RowIn w.heap.size r2 (es.map En.v4)) := by
  obtain ⟨i1, hi1, hy0, hy1, hy2⟩ := valInfo
  have HT := hide_p h
  have c4 := h.ord.keys
  have c5 := h.ord.first
  have hfew := h.few
  have htb := h.lt _ h.own
  obtain ⟨n, hn⟩ : ∃ n, n = es.length := ⟨_, rfl⟩
  rw [← hn] at c4 hfew
  have HN := hide_p hn
  have hmk := fun w => make_run i1 hi1 hy0 hy1 hy2 n hfew w
  have HM : Hid (∀ w, W2 w.heap.size w ((w.alloc (.cells (madeCells #[.int .i64 0, .int .u64 0, .string ⟨#[]⟩, .int .i64 0] (n * 4)) 37)).alloc (.cells (madeCells #[.int .i64 0, .int .u64 0, .string ⟨#[]⟩, .int .i64 0] (n * 4)) 37)) (RowIn w.heap.size (.slice (some ⟨w.heap.size, 0, none⟩) 0 n) []) (RowIn w.heap.size (.slice (some ⟨w.heap.size + 1, 0, none⟩) 0 n) [])) := fun w => w2_made w n hfew _ _ (by simp [madeCells]) (by simp [madeCells])
  clear h hn
  go_enter Tryz.func47, Tryz.ntmps47
  go_upto_region 1 with fail
  go_cut [0, 4, 5] (fun t0 t4 t5 wx => t0 = .pointer (some ⟨tb, 0, none⟩) ∧ Hid (W2 w.heap.size w wx (RowIn w.heap.size t4 []) (RowIn w.heap.size t5 [])))
  case first =>
    go_region
    · go_wp2_with fail
      go_meet
      exact ⟨rfl, (HM.out w).drew (RowIn.lcl _ _ _) (RowIn.lcl _ _ _)⟩
    · go_wp2_with fail
      go_meet
      exact ⟨rfl, (HM.out w).turn.drew (RowIn.lcl _ _ _) (RowIn.lcl _ _ _)⟩
  case rest =>
    obtain ⟨rfl, HW⟩ := hcut
    obtain ⟨w1, hw1⟩ : ∃ x, x = wc := ⟨_, rfl⟩
    subst hw1
    have c5' : w1.cell? ⟨tb, 5, none⟩ = some (hd es) := (HW.out.low.cell htb).trans c5
    clear c4 c5 hmk HM
    go_wp2_with fail
    go_loopg [4, 5, 6] n (fun kk t4 t5 t6 wr => ∃ dn rs : List En, t6 = hd rs ∧ Hid (es = dn ++ rs ∧ kk = rs.length) ∧ Hid (W2 w.heap.size w wr (RowIn w.heap.size t4 (dn.map En.k4)) (RowIn w.heap.size t5 (dn.map En.v4))))
    case atStart => exact ⟨[], es, rfl, ⟨rfl, HN.out⟩, HW.out⟩
    case round =>
      obtain ⟨dn, rs, rfl, HS, HR⟩ := hrel
      clear c5' HW
      cases rs with
      | nil =>
        rw [show hd [] = Value.pointer none from rfl]
        go_wp2
        have e := HS.out.1
        rw [List.append_nil] at e
        exact bodyPost_ret (v := .tuple #[u4, u5]) (by simp [results, Tryz.results47, go_sem]) rfl ⟨_, _, rfl, by rw [e]; exact HR.out⟩
      | cons y ys =>
        rw [show hd (y :: ys) = Value.pointer (some ⟨y.b, 0, none⟩) from rfl]
        have hyl : y.b < w.heap.size := HT.out.lt _ (HT.out.ent y (by rw [HS.out.1]; simp)).1
        obtain ⟨e0, e1, e2, e3, e4, e5, e6, e7, _⟩ := HT.out.enc y (by rw [HS.out.1]; simp)
        have c11 : w.cell? ⟨y.b, 11, none⟩ = some (hd ys) := by
          have h11 := HT.out.ord.behind
          rw [HS.out.1] at h11
          exact (Lk.tail h11).1
        have hdn : dn.length < 1048576 := by
          have h1 := HN.out
          rw [HS.out.1, List.length_append, List.length_cons] at h1
          omega
        have HW0 : Hid (∀ e1 n1 e2 n2, W2 w.heap.size w wr.drew (P17 w.heap.size u4 (dn.map En.k4) y.k4 false false e1 n1) (P17 w.heap.size u5 (dn.map En.v4) y.v4 false false e2 n2)) := by
          intro e1 n1 e2 n2
          obtain ⟨XA, XB, h1, h2, h3, h4⟩ := (HR.out.drew (RowIn.lcl _ _ _) (RowIn.lcl _ _ _)).ex
          exact ⟨HR.out.low.drew, HR.out.le, XA, XB, h1, h2, ⟨fun _ => h3, fun q => by (cases q), fun q => by (cases q)⟩, ⟨fun _ => h4, fun q => by (cases q), fun q => by (cases q)⟩⟩
        go_upto_region 5 with fail
        refine wp_region_inv2 (by kernel_rfl) [27, 28, 29, 30, 31, 32, 33, 34, 35, 36, 37, 38, 39, 40, 4, 5] (fun L vs w' => ∃ v27 v28 v29 v30 v31 v32 v33 v34 v35 v36 v37 v38 v39 v40 v4 v5, vs = [v27, v28, v29, v30, v31, v32, v33, v34, v35, v36, v37, v38, v39, v40, v4, v5] ∧ (L 0 = true → v27 = u4) ∧ (L 1 = true → v28 = (.pointer (some ⟨y.b, 0, none⟩))) ∧ (L 2 = true → v29 = (.pointer (some ⟨y.b, 0, none⟩))) ∧ (L 3 = true → v30 = (.pointer (some ⟨y.b, 0, none⟩))) ∧ (L 4 = true → v31 = (.agg #[.int .i64 y.K, .int .u64 y.N, .string y.S, .int .i64 y.O])) ∧ (L 7 = true → v34 = u5) ∧ (L 8 = true → v35 = (.pointer (some ⟨y.b, 0, none⟩))) ∧ (L 9 = true → v36 = (.pointer (some ⟨y.b, 0, none⟩))) ∧ (L 10 = true → v37 = (.pointer (some ⟨y.b, 4, none⟩))) ∧ (L 11 = true → v38 = (.agg #[.int .i64 y.vK, .int .u64 y.vN, .string y.vS, .int .i64 y.vO])) ∧ (L 6 = true → L 0 = true ∧ L 5 = true) ∧ (L 14 = true → L 6 = true) ∧ (L 13 = true → L 7 = true ∧ L 12 = true) ∧ (L 15 = true → L 13 = true) ∧ Hid (W2 w.heap.size w w' (P17 w.heap.size u4 (dn.map En.k4) y.k4 (L 5) (L 6) v32 v33) (P17 w.heap.size u5 (dn.map En.v4) y.v4 (L 12) (L 13) v39 v40) ∧ (L 14 = false → v4 = u4) ∧ (L 14 = true → v4 = v33) ∧ (L 15 = false → v5 = u5) ∧ (L 15 = true → v5 = v40))) (by kernel_rfl) (by decide) (by intro x hx; simp at hx; simp; omega) ?_ ⟨?_, ?_, ?_, ?_, ?_, ?_, ?_, ?_, ?_, ?_, ?_, ?_, ?_, ?_, ?_, ?_, trivial⟩ ?_
        · exact ⟨_, _, _, _, _, _, _, _, _, _, _, _, _, _, _, _, rfl, fun q => by (cases q), fun q => by (cases q), fun q => by (cases q), fun q => by (cases q), fun q => by (cases q), fun q => by (cases q), fun q => by (cases q), fun q => by (cases q), fun q => by (cases q), fun q => by (cases q), fun q => by (cases q), fun q => by (cases q), fun q => by (cases q), fun q => by (cases q), ⟨HW0.out _ _ _ _, fun _ => rfl, fun q => by (cases q), fun _ => rfl, fun q => by (cases q)⟩⟩
        · rintro A L vs w' F G ⟨v27, v28, v29, v30, v31, v32, v33, v34, v35, v36, v37, v38, v39, v40, v4, v5, rfl, d0, d1, d2, d3, d4, d7, d8, d9, d10, d11, mA, sA, mB, sB, HW⟩ hL hdep K' hK hK0
          have hs : L 14 = false := by
            cases q : L 14 with
            | false => rfl
            | true => exact absurd ((mA (sA q)).1) (by rw [hL]; decide)
          have e4 : v4 = u4 := HW.out.2.1 hs
          have g4 := evD (F 14 4 _ rfl rfl)
          rw [e4] at g4
          clear F G
          go_simp
          refine hK 0 27 _ w' rfl ⟨_, _, _, _, _, _, _, _, _, _, _, _, _, _, _, _, rfl, (fun _ => rfl), d1, d2, d3, d4, d7, d8, d9, d10, d11, (fun q => ⟨lmono (mA q).1, lmono (mA q).2⟩), (fun q => lmono (sA q)), (fun q => ⟨lmono (mB q).1, lmono (mB q).2⟩), (fun q => lmono (sB q)), HW⟩
        · rintro A L vs w' F G ⟨v27, v28, v29, v30, v31, v32, v33, v34, v35, v36, v37, v38, v39, v40, v4, v5, rfl, d0, d1, d2, d3, d4, d7, d8, d9, d10, d11, mA, sA, mB, sB, HW⟩ hL hdep K' hK hK0
          have g6 : A.tmps[6]?.getD undef = (.pointer (some ⟨y.b, 0, none⟩)) := evD ((G 6 (by decide)).trans rfl)
          clear F G
          go_simp
          refine hK 1 28 _ w' rfl ⟨_, _, _, _, _, _, _, _, _, _, _, _, _, _, _, _, rfl, d0, (fun _ => rfl), d2, d3, d4, d7, d8, d9, d10, d11, (fun q => ⟨lmono (mA q).1, lmono (mA q).2⟩), (fun q => lmono (sA q)), (fun q => ⟨lmono (mB q).1, lmono (mB q).2⟩), (fun q => lmono (sB q)), HW⟩
        · rintro A L vs w' F G ⟨v27, v28, v29, v30, v31, v32, v33, v34, v35, v36, v37, v38, v39, v40, v4, v5, rfl, d0, d1, d2, d3, d4, d7, d8, d9, d10, d11, mA, sA, mB, sB, HW⟩ hL hdep K' hK hK0
          have p1 : L 1 = true := hdep { on := 1, ground := Ground.data } (by simp) rfl
          have q := d1 p1
          subst q
          have g28 := evD (F 1 28 _ rfl rfl)
          clear F G
          go_simp
          refine hK 2 29 _ w' rfl ⟨_, _, _, _, _, _, _, _, _, _, _, _, _, _, _, _, rfl, d0, (fun _ => rfl), (fun _ => rfl), d3, d4, d7, d8, d9, d10, d11, (fun q => ⟨lmono (mA q).1, lmono (mA q).2⟩), (fun q => lmono (sA q)), (fun q => ⟨lmono (mB q).1, lmono (mB q).2⟩), (fun q => lmono (sB q)), HW⟩
        · rintro A L vs w' F G ⟨v27, v28, v29, v30, v31, v32, v33, v34, v35, v36, v37, v38, v39, v40, v4, v5, rfl, d0, d1, d2, d3, d4, d7, d8, d9, d10, d11, mA, sA, mB, sB, HW⟩ hL hdep K' hK hK0
          have p2 : L 2 = true := hdep { on := 2, ground := Ground.data } (by simp) rfl
          have q := d2 p2
          subst q
          have g29 := evD (F 2 29 _ rfl rfl)
          clear F G
          go_simp
          refine hK 3 30 _ w' rfl ⟨_, _, _, _, _, _, _, _, _, _, _, _, _, _, _, _, rfl, d0, d1, (fun _ => rfl), (fun _ => rfl), d4, d7, d8, d9, d10, d11, (fun q => ⟨lmono (mA q).1, lmono (mA q).2⟩), (fun q => lmono (sA q)), (fun q => ⟨lmono (mB q).1, lmono (mB q).2⟩), (fun q => lmono (sB q)), HW⟩
        · rintro A L vs w' F G ⟨v27, v28, v29, v30, v31, v32, v33, v34, v35, v36, v37, v38, v39, v40, v4, v5, rfl, d0, d1, d2, d3, d4, d7, d8, d9, d10, d11, mA, sA, mB, sB, HW⟩ hL hdep K' hK hK0
          have p3 : L 3 = true := hdep { on := 3, ground := Ground.data } (by simp) rfl
          have b0 := (HW.out.1.low.cell (p := ⟨y.b, 0, none⟩) hyl).trans e0
          have b1 := (HW.out.1.low.cell (p := ⟨y.b, 1, none⟩) hyl).trans e1
          have b2 := (HW.out.1.low.cell (p := ⟨y.b, 2, none⟩) hyl).trans e2
          have b3 := (HW.out.1.low.cell (p := ⟨y.b, 3, none⟩) hyl).trans e3
          have q := d3 p3
          subst q
          have g30 := evD (F 3 30 _ rfl rfl)
          clear F G
          go_simp
          refine hK 4 31 _ w' rfl ⟨_, _, _, _, _, _, _, _, _, _, _, _, _, _, _, _, rfl, d0, d1, d2, (fun _ => rfl), (fun _ => rfl), d7, d8, d9, d10, d11, (fun q => ⟨lmono (mA q).1, lmono (mA q).2⟩), (fun q => lmono (sA q)), (fun q => ⟨lmono (mB q).1, lmono (mB q).2⟩), (fun q => lmono (sB q)), HW⟩
        · rintro A L vs w' F G ⟨v27, v28, v29, v30, v31, v32, v33, v34, v35, v36, v37, v38, v39, v40, v4, v5, rfl, d0, d1, d2, d3, d4, d7, d8, d9, d10, d11, mA, sA, mB, sB, HW⟩ hL hdep K' hK hK0
          have p4 : L 4 = true := hdep { on := 4, ground := Ground.data } (by simp) rfl
          have ha : L 6 = false := by
            cases q : L 6 with
            | false => rfl
            | true => exact absurd (mA q).2 (by rw [hL]; decide)
          have HW2 : Hid (W2 w.heap.size w (w'.alloc (.cells #[.int .i64 y.K, .int .u64 y.N, .string y.S, .int .i64 y.O] 37)) (P17 w.heap.size u4 (dn.map En.k4) y.k4 true (L 6) (.slice (some ⟨w'.heap.size, 0, none⟩) 1 1) v33) (P17 w.heap.size u5 (dn.map En.v4) y.v4 (L 12) (L 13) v39 v40) ∧ (L 14 = false → v4 = u4) ∧ (L 14 = true → v4 = v33) ∧ (L 15 = false → v5 = u5) ∧ (L 15 = true → v5 = v40)) := by
            have hw := W2.stepA (PA' := P17 w.heap.size u4 (dn.map En.k4) y.k4 true false (.slice (some ⟨w'.heap.size, 0, none⟩) 1 1) v33) HW.out.1 (P17.lcl _ _ _ _ _ _ _ _) (w' := (w'.alloc (.cells #[.int .i64 y.K, .int .u64 y.N, .string y.S, .int .i64 y.O] 37))) (fun X hX hb => P17.bs (x := y.k4) (n := v33) (hX.1 ha) (fun k hk => (hb k hk).2))
            rw [ha]
            exact ⟨hw, HW.out.2⟩
          have q := d4 p4
          subst q
          have g31 := evD (F 4 31 _ rfl rfl)
          clear F G
          go_simp
          refine hK 5 32 _ _ rfl ⟨_, _, _, _, _, _, _, _, _, _, _, _, _, _, _, _, rfl, d0, d1, d2, d3, (fun _ => rfl), d7, d8, d9, d10, d11, (fun q => ⟨lmono (mA q).1, lmono (mA q).2⟩), (fun q => lmono (sA q)), (fun q => ⟨lmono (mB q).1, lmono (mB q).2⟩), (fun q => lmono (sB q)), HW2⟩
        · rintro A L vs w' F G ⟨v27, v28, v29, v30, v31, v32, v33, v34, v35, v36, v37, v38, v39, v40, v4, v5, rfl, d0, d1, d2, d3, d4, d7, d8, d9, d10, d11, mA, sA, mB, sB, HW⟩ hL hdep K' hK hK0
          have p0 : L 0 = true := hdep { on := 0, ground := Ground.data } (by simp) rfl
          have p5 : L 5 = true := hdep { on := 5, ground := Ground.data } (by simp) rfl
          have hs : L 14 = false := by
            cases q : L 14 with
            | false => rfl
            | true => exact absurd (sA q) (by rw [hL]; decide)
          have hB := HW.out.1.le
          obtain ⟨hrow, g, hg, hblk⟩ : w'.ownsRow w.heap.size 37 4 u4 (dn.map En.k4).length (vC (dn.map En.k4)) ∧ ∃ g, v32 = .slice (some ⟨g, 0, none⟩) 1 1 ∧ w'.heap[g]? = some (.cells #[.int .i64 y.k4.K, .int .u64 y.k4.N, .string y.k4.S, .int .i64 y.k4.O] 37 (0, 0)) := by
            obtain ⟨XA, XB, _, _, hpa, _⟩ := HW.out.1.ex
            obtain ⟨g, e1, _, _, e4⟩ := hpa.2.1 p5 hL
            exact ⟨(hpa.1 hL).1, g, e1, e4⟩
          have hf := (F 0 27 _ rfl rfl)
          rw [d0 p0] at hf
          refine step_append_src w' rfl (.tmp 27) (.tmp 32) 33 rfl w.heap.size 37 i1 _ 4 40 Tryz.underlying33 hi1 hy0 hy1 hy2 rfl (by decide) u4 (dn.map En.k4).length (vC (dn.map En.k4)) hf hrow v32 1 y.k4.cells (F 5 32 _ rfl rfl) (by rw [hg]; exact src_one hblk rfl (by intro u hu; simp at hu; rcases hu with rfl | rfl | rfl | rfl <;> rfl)) (by rw [List.length_map]; unfold maxLen; omega) (by rw [List.length_map]; omega) hB ?_
          intro a' c' w2 q1 q2 q3
          have HW2 : Hid (W2 w.heap.size w w2 (P17 w.heap.size u4 (dn.map En.k4) y.k4 (L 5) true v32 (.slice a' ((dn.map En.k4).length + 1) c')) (P17 w.heap.size u5 (dn.map En.v4) y.v4 (L 12) (L 13) v39 v40) ∧ (L 14 = false → v4 = u4) ∧ (L 14 = true → v4 = (.slice a' ((dn.map En.k4).length + 1) c')) ∧ (L 15 = false → v5 = u5) ∧ (L 15 = true → v5 = v40)) := by
            have hw := W2.stepA (PA' := P17 w.heap.size u4 (dn.map En.k4) y.k4 true true v32 (.slice a' ((dn.map En.k4).length + 1) c')) HW.out.1 (P17.lcl _ _ _ _ _ _ _ _) (w' := w2) (fun X hX hb => P17.app (hX.1 hL) q1 q2 q3)
            rw [p5]
            exact ⟨hw, HW.out.2.1, fun q => absurd q (by rw [hs]; decide), HW.out.2.2.2⟩
          refine hK 6 33 _ w2 rfl ⟨_, _, _, _, _, _, _, _, _, _, _, _, _, _, _, _, rfl, d0, d1, d2, d3, d4, d7, d8, d9, d10, d11, (fun _ => ⟨lmono p0, lmono p5⟩), (fun q => lmono (sA q)), (fun q => ⟨lmono (mB q).1, lmono (mB q).2⟩), (fun q => lmono (sB q)), HW2⟩
        · rintro A L vs w' F G ⟨v27, v28, v29, v30, v31, v32, v33, v34, v35, v36, v37, v38, v39, v40, v4, v5, rfl, d0, d1, d2, d3, d4, d7, d8, d9, d10, d11, mA, sA, mB, sB, HW⟩ hL hdep K' hK hK0
          have hs : L 15 = false := by
            cases q : L 15 with
            | false => rfl
            | true => exact absurd ((mB (sB q)).1) (by rw [hL]; decide)
          have e4 : v5 = u5 := HW.out.2.2.2.1 hs
          have g5 := evD (F 15 5 _ rfl rfl)
          rw [e4] at g5
          clear F G
          go_simp
          refine hK 7 34 _ w' rfl ⟨_, _, _, _, _, _, _, _, _, _, _, _, _, _, _, _, rfl, d0, d1, d2, d3, d4, (fun _ => rfl), d8, d9, d10, d11, (fun q => ⟨lmono (mA q).1, lmono (mA q).2⟩), (fun q => lmono (sA q)), (fun q => ⟨lmono (mB q).1, lmono (mB q).2⟩), (fun q => lmono (sB q)), HW⟩
        · rintro A L vs w' F G ⟨v27, v28, v29, v30, v31, v32, v33, v34, v35, v36, v37, v38, v39, v40, v4, v5, rfl, d0, d1, d2, d3, d4, d7, d8, d9, d10, d11, mA, sA, mB, sB, HW⟩ hL hdep K' hK hK0
          have g6 : A.tmps[6]?.getD undef = (.pointer (some ⟨y.b, 0, none⟩)) := evD ((G 6 (by decide)).trans rfl)
          clear F G
          go_simp
          refine hK 8 35 _ w' rfl ⟨_, _, _, _, _, _, _, _, _, _, _, _, _, _, _, _, rfl, d0, d1, d2, d3, d4, d7, (fun _ => rfl), d9, d10, d11, (fun q => ⟨lmono (mA q).1, lmono (mA q).2⟩), (fun q => lmono (sA q)), (fun q => ⟨lmono (mB q).1, lmono (mB q).2⟩), (fun q => lmono (sB q)), HW⟩
        · rintro A L vs w' F G ⟨v27, v28, v29, v30, v31, v32, v33, v34, v35, v36, v37, v38, v39, v40, v4, v5, rfl, d0, d1, d2, d3, d4, d7, d8, d9, d10, d11, mA, sA, mB, sB, HW⟩ hL hdep K' hK hK0
          have p8 : L 8 = true := hdep { on := 8, ground := Ground.data } (by simp) rfl
          have q := d8 p8
          subst q
          have g35 := evD (F 8 35 _ rfl rfl)
          clear F G
          go_simp
          refine hK 9 36 _ w' rfl ⟨_, _, _, _, _, _, _, _, _, _, _, _, _, _, _, _, rfl, d0, d1, d2, d3, d4, d7, (fun _ => rfl), (fun _ => rfl), d10, d11, (fun q => ⟨lmono (mA q).1, lmono (mA q).2⟩), (fun q => lmono (sA q)), (fun q => ⟨lmono (mB q).1, lmono (mB q).2⟩), (fun q => lmono (sB q)), HW⟩
        · rintro A L vs w' F G ⟨v27, v28, v29, v30, v31, v32, v33, v34, v35, v36, v37, v38, v39, v40, v4, v5, rfl, d0, d1, d2, d3, d4, d7, d8, d9, d10, d11, mA, sA, mB, sB, HW⟩ hL hdep K' hK hK0
          have p9 : L 9 = true := hdep { on := 9, ground := Ground.data } (by simp) rfl
          have q := d9 p9
          subst q
          have g36 := evD (F 9 36 _ rfl rfl)
          clear F G
          go_simp
          refine hK 10 37 _ w' rfl ⟨_, _, _, _, _, _, _, _, _, _, _, _, _, _, _, _, rfl, d0, d1, d2, d3, d4, d7, d8, (fun _ => rfl), (fun _ => rfl), d11, (fun q => ⟨lmono (mA q).1, lmono (mA q).2⟩), (fun q => lmono (sA q)), (fun q => ⟨lmono (mB q).1, lmono (mB q).2⟩), (fun q => lmono (sB q)), HW⟩
        · rintro A L vs w' F G ⟨v27, v28, v29, v30, v31, v32, v33, v34, v35, v36, v37, v38, v39, v40, v4, v5, rfl, d0, d1, d2, d3, d4, d7, d8, d9, d10, d11, mA, sA, mB, sB, HW⟩ hL hdep K' hK hK0
          have p10 : L 10 = true := hdep { on := 10, ground := Ground.data } (by simp) rfl
          have b0 := (HW.out.1.low.cell (p := ⟨y.b, 4, none⟩) hyl).trans e4
          have b1 := (HW.out.1.low.cell (p := ⟨y.b, 5, none⟩) hyl).trans e5
          have b2 := (HW.out.1.low.cell (p := ⟨y.b, 6, none⟩) hyl).trans e6
          have b3 := (HW.out.1.low.cell (p := ⟨y.b, 7, none⟩) hyl).trans e7
          have q := d10 p10
          subst q
          have g37 := evD (F 10 37 _ rfl rfl)
          clear F G
          go_simp
          refine hK 11 38 _ w' rfl ⟨_, _, _, _, _, _, _, _, _, _, _, _, _, _, _, _, rfl, d0, d1, d2, d3, d4, d7, d8, d9, (fun _ => rfl), (fun _ => rfl), (fun q => ⟨lmono (mA q).1, lmono (mA q).2⟩), (fun q => lmono (sA q)), (fun q => ⟨lmono (mB q).1, lmono (mB q).2⟩), (fun q => lmono (sB q)), HW⟩
        · rintro A L vs w' F G ⟨v27, v28, v29, v30, v31, v32, v33, v34, v35, v36, v37, v38, v39, v40, v4, v5, rfl, d0, d1, d2, d3, d4, d7, d8, d9, d10, d11, mA, sA, mB, sB, HW⟩ hL hdep K' hK hK0
          have p11 : L 11 = true := hdep { on := 11, ground := Ground.data } (by simp) rfl
          have ha : L 13 = false := by
            cases q : L 13 with
            | false => rfl
            | true => exact absurd (mB q).2 (by rw [hL]; decide)
          have HW2 : Hid (W2 w.heap.size w (w'.alloc (.cells #[.int .i64 y.vK, .int .u64 y.vN, .string y.vS, .int .i64 y.vO] 37)) (P17 w.heap.size u4 (dn.map En.k4) y.k4 (L 5) (L 6) v32 v33) (P17 w.heap.size u5 (dn.map En.v4) y.v4 true (L 13) (.slice (some ⟨w'.heap.size, 0, none⟩) 1 1) v40) ∧ (L 14 = false → v4 = u4) ∧ (L 14 = true → v4 = v33) ∧ (L 15 = false → v5 = u5) ∧ (L 15 = true → v5 = v40)) := by
            have hw := W2.stepB (PB' := P17 w.heap.size u5 (dn.map En.v4) y.v4 true false (.slice (some ⟨w'.heap.size, 0, none⟩) 1 1) v40) HW.out.1 (P17.lcl _ _ _ _ _ _ _ _) (w' := (w'.alloc (.cells #[.int .i64 y.vK, .int .u64 y.vN, .string y.vS, .int .i64 y.vO] 37))) (fun X hX hb => P17.bs (x := y.v4) (n := v40) (hX.1 ha) (fun k hk => (hb k hk).2))
            rw [ha]
            exact ⟨hw, HW.out.2⟩
          have q := d11 p11
          subst q
          have g38 := evD (F 11 38 _ rfl rfl)
          clear F G
          go_simp
          refine hK 12 39 _ _ rfl ⟨_, _, _, _, _, _, _, _, _, _, _, _, _, _, _, _, rfl, d0, d1, d2, d3, d4, d7, d8, d9, d10, (fun _ => rfl), (fun q => ⟨lmono (mA q).1, lmono (mA q).2⟩), (fun q => lmono (sA q)), (fun q => ⟨lmono (mB q).1, lmono (mB q).2⟩), (fun q => lmono (sB q)), HW2⟩
        · rintro A L vs w' F G ⟨v27, v28, v29, v30, v31, v32, v33, v34, v35, v36, v37, v38, v39, v40, v4, v5, rfl, d0, d1, d2, d3, d4, d7, d8, d9, d10, d11, mA, sA, mB, sB, HW⟩ hL hdep K' hK hK0
          have p7 : L 7 = true := hdep { on := 7, ground := Ground.data } (by simp) rfl
          have p12 : L 12 = true := hdep { on := 12, ground := Ground.data } (by simp) rfl
          have hs : L 15 = false := by
            cases q : L 15 with
            | false => rfl
            | true => exact absurd (sB q) (by rw [hL]; decide)
          have hB := HW.out.1.le
          obtain ⟨hrow, g, hg, hblk⟩ : w'.ownsRow w.heap.size 37 4 u5 (dn.map En.v4).length (vC (dn.map En.v4)) ∧ ∃ g, v39 = .slice (some ⟨g, 0, none⟩) 1 1 ∧ w'.heap[g]? = some (.cells #[.int .i64 y.v4.K, .int .u64 y.v4.N, .string y.v4.S, .int .i64 y.v4.O] 37 (0, 0)) := by
            obtain ⟨XA, XB, _, _, _, hpa⟩ := HW.out.1.ex
            obtain ⟨g, e1, _, _, e4⟩ := hpa.2.1 p12 hL
            exact ⟨(hpa.1 hL).1, g, e1, e4⟩
          have hf := (F 7 34 _ rfl rfl)
          rw [d7 p7] at hf
          refine step_append_src w' rfl (.tmp 34) (.tmp 39) 33 rfl w.heap.size 37 i1 _ 4 40 Tryz.underlying33 hi1 hy0 hy1 hy2 rfl (by decide) u5 (dn.map En.v4).length (vC (dn.map En.v4)) hf hrow v39 1 y.v4.cells (F 12 39 _ rfl rfl) (by rw [hg]; exact src_one hblk rfl (by intro u hu; simp at hu; rcases hu with rfl | rfl | rfl | rfl <;> rfl)) (by rw [List.length_map]; unfold maxLen; omega) (by rw [List.length_map]; omega) hB ?_
          intro a' c' w2 q1 q2 q3
          have HW2 : Hid (W2 w.heap.size w w2 (P17 w.heap.size u4 (dn.map En.k4) y.k4 (L 5) (L 6) v32 v33) (P17 w.heap.size u5 (dn.map En.v4) y.v4 (L 12) true v39 (.slice a' ((dn.map En.v4).length + 1) c')) ∧ (L 14 = false → v4 = u4) ∧ (L 14 = true → v4 = v33) ∧ (L 15 = false → v5 = u5) ∧ (L 15 = true → v5 = (.slice a' ((dn.map En.v4).length + 1) c'))) := by
            have hw := W2.stepB (PB' := P17 w.heap.size u5 (dn.map En.v4) y.v4 true true v39 (.slice a' ((dn.map En.v4).length + 1) c')) HW.out.1 (P17.lcl _ _ _ _ _ _ _ _) (w' := w2) (fun X hX hb => P17.app (hX.1 hL) q1 q2 q3)
            rw [p12]
            exact ⟨hw, HW.out.2.1, HW.out.2.2.1, HW.out.2.2.2.1, fun q => absurd q (by rw [hs]; decide)⟩
          refine hK 13 40 _ w2 rfl ⟨_, _, _, _, _, _, _, _, _, _, _, _, _, _, _, _, rfl, d0, d1, d2, d3, d4, d7, d8, d9, d10, d11, (fun q => ⟨lmono (mA q).1, lmono (mA q).2⟩), (fun q => lmono (sA q)), (fun _ => ⟨lmono p7, lmono p12⟩), (fun q => lmono (sB q)), HW2⟩
        · rintro A L vs w' F G ⟨v27, v28, v29, v30, v31, v32, v33, v34, v35, v36, v37, v38, v39, v40, v4, v5, rfl, d0, d1, d2, d3, d4, d7, d8, d9, d10, d11, mA, sA, mB, sB, HW⟩ hL hdep K' hK hK0
          have p6 : L 6 = true := hdep { on := 6, ground := Ground.data } (by simp) rfl
          have HW2 : Hid (W2 w.heap.size w w' (P17 w.heap.size u4 (dn.map En.k4) y.k4 (L 5) (L 6) v32 v33) (P17 w.heap.size u5 (dn.map En.v4) y.v4 (L 12) (L 13) v39 v40) ∧ (true = false → v33 = u4) ∧ (true = true → v33 = v33) ∧ (L 15 = false → v5 = u5) ∧ (L 15 = true → v5 = v40)) := ⟨HW.out.1, fun q => by (cases q), fun _ => rfl, HW.out.2.2.2⟩
          have g33 := evD (F 6 33 _ rfl rfl)
          clear F G
          go_simp
          refine hK 14 4 _ w' rfl ⟨_, _, _, _, _, _, _, _, _, _, _, _, _, _, _, _, rfl, d0, d1, d2, d3, d4, d7, d8, d9, d10, d11, (fun q => ⟨lmono (mA q).1, lmono (mA q).2⟩), (fun _ => lmono p6), (fun q => ⟨lmono (mB q).1, lmono (mB q).2⟩), (fun q => lmono (sB q)), HW2⟩
        · rintro A L vs w' F G ⟨v27, v28, v29, v30, v31, v32, v33, v34, v35, v36, v37, v38, v39, v40, v4, v5, rfl, d0, d1, d2, d3, d4, d7, d8, d9, d10, d11, mA, sA, mB, sB, HW⟩ hL hdep K' hK hK0
          have p13 : L 13 = true := hdep { on := 13, ground := Ground.data } (by simp) rfl
          have HW2 : Hid (W2 w.heap.size w w' (P17 w.heap.size u4 (dn.map En.k4) y.k4 (L 5) (L 6) v32 v33) (P17 w.heap.size u5 (dn.map En.v4) y.v4 (L 12) (L 13) v39 v40) ∧ (L 14 = false → v4 = u4) ∧ (L 14 = true → v4 = v33) ∧ (true = false → v40 = u5) ∧ (true = true → v40 = v40)) := ⟨HW.out.1, HW.out.2.1, HW.out.2.2.1, fun q => by (cases q), fun _ => rfl⟩
          have g40 := evD (F 13 40 _ rfl rfl)
          clear F G
          go_simp
          refine hK 15 5 _ w' rfl ⟨_, _, _, _, _, _, _, _, _, _, _, _, _, _, _, _, rfl, d0, d1, d2, d3, d4, d7, d8, d9, d10, d11, (fun q => ⟨lmono (mA q).1, lmono (mA q).2⟩), (fun q => lmono (sA q)), (fun q => ⟨lmono (mB q).1, lmono (mB q).2⟩), (fun _ => lmono p13), HW2⟩
        · rintro L vs w' hall ⟨v27, v28, v29, v30, v31, v32, v33, v34, v35, v36, v37, v38, v39, v40, v4, v5, rfl, d0, d1, d2, d3, d4, d7, d8, d9, d10, d11, mA, sA, mB, sB, HW⟩
          have HE2 : Hid (W2 w.heap.size w w' (RowIn w.heap.size v4 ((dn ++ [y]).map En.k4)) (RowIn w.heap.size v5 ((dn ++ [y]).map En.v4))) := by
            obtain ⟨hw, _, h4, _, h5⟩ := HW.out
            rw [hall 5 (by decide), hall 6 (by decide), hall 12 (by decide), hall 13 (by decide)] at hw
            rw [h4 (hall 14 (by decide)), h5 (hall 15 (by decide))]
            obtain ⟨XA, XB, e1, e2, e3, e4⟩ := hw.ex
            refine ⟨hw.low, hw.le, XA, XB, e1, e2, ?_, ?_⟩
            · rw [List.map_append]; exact (e3.2.2 rfl).2
            · rw [List.map_append]; exact (e4.2.2 rfl).2
          clear d0 d1 d2 d3 d4 d7 d8 d9 d10 d11 mA sA mB sB HW
          have c11' := (HE2.out.low.cell (p := ⟨y.b, 11, none⟩) hyl).trans c11
          clear HW0 HR e0 e1 e2 e3 e4 e5 e6 e7 c11
          simp only [puts]
          go_simp
          go_wp2
          go_roundg ys.length
          case measure => have := HS.out.2; rw [List.length_cons] at this; omega
          case rel => exact ⟨dn ++ [y], ys, rfl, ⟨by rw [HS.out.1]; simp, rfl⟩, HE2.out⟩
end Go.Proofs.YthmocdabakkfhaaGreatDoor
