/-
  HpTd, HpTo, HpSet3, HpSet4, HpKey, HpStep
-/
import Derived.Test.YtjkedocppbcncaaDoorZ23

/-
  Layer 9: a key that goes out of a table, on tables as a whole.
-/
namespace Go.Proofs.YtjkedocppbcncaaDoor
set_option maxRecDepth 100000
open Go.RowKit Flo

/-- Numbers of one place are one. -/
theorem bit_same {m : Nat} {K N K' N' : Int} (hN : U64 N) (hN' : U64 N') (h : bitB m K N = true) (h' : bitB m K' N' = true) (e : bitN m K N = bitN m K' N') : K = 3 ∧ K' = 3 ∧ N = N' := by
  have a := of_decide_eq_true (by unfold bitB at h; exact h)
  have a' := of_decide_eq_true (by unfold bitB at h'; exact h')
  unfold bitN at e
  rw [if_pos h, if_pos h'] at e
  have e2 : toI N = toI N' := by omega
  refine ⟨a.1, a'.1, ?_⟩
  have tzN : toI N = tz N := by unfold toI; rw [if_pos a.2.1]
  have tzN' : toI N' = tz N' := by unfold toI; rw [if_pos a'.2.1]
  have isN : isZ N = true := by have := a.2.1; unfold toB at this; simp at this; exact this.1
  have isN' : isZ N' = true := by have := a'.2.1; unfold toB at this; simp at this; exact this.1
  have mz : ∀ x : Int, 1 ≤ tz x → MZ x ≠ 0 := fun x hx c => by
    unfold tz at hx
    rw [c, Nat.zero_div] at hx
    unfold sz at hx
    split at hx <;> simp at hx
  have b := back_word hN isN (mz N (by omega))
  have b' := back_word hN' isN' (mz N' (by omega))
  rw [← b, ← b', ← tzN, ← tzN', e2]

/-- A key that goes, out of what is counted. -/
theorem sz_drop {m s : Nat} {W : Nat → Nat} {xo yo : List En} {e : En} (h : Sz m W s (hasP m (xo ++ e :: yo))) (hu : ∀ f ∈ xo ++ e :: yo, U64 f.N)
    (hn : ∀ f ∈ xo ++ yo, ¬ (e.K = 3 ∧ f.K = 3 ∧ e.N = f.N)) : Sz m (disW m W e.K e.N) (disS m s e.K e.N) (hasP m (xo ++ yo)) := by
  refine (h.discount e.K e.N).same fun p _ => ?_
  unfold hasP
  constructor
  · rintro ⟨⟨f, hf, h1, h2⟩, h3⟩
    rcases List.mem_append.1 hf with c | c
    · exact ⟨f, List.mem_append_left _ c, h1, h2⟩
    · rcases List.mem_cons.1 c with d | d
      · subst d; exact absurd ⟨h1, h2⟩ h3
      · exact ⟨f, List.mem_append_right _ d, h1, h2⟩
  · rintro ⟨f, hf, h1, h2⟩
    have hf2 : f ∈ xo ++ e :: yo := by
      rcases List.mem_append.1 hf with c | c
      · exact List.mem_append_left _ c
      · exact List.mem_append_right _ (List.mem_cons_of_mem _ c)
    refine ⟨⟨f, hf2, h1, h2⟩, fun c => ?_⟩
    have := bit_same (hu e (by simp)) (hu f hf2) c.1 h1 (c.2.symm.trans h2)
    exact hn f hf ⟨this.1, this.2.1, this.2.2⟩

/-- A key that is there goes. -/
theorem tab_drop {w : World} {tb : Nat} {X : Nat → Prop} {xo yo : List En} {e : En} {M : V4} (h : Tv w tb X (xo ++ e :: yo) M) (hn : ∀ f ∈ xo ++ yo, ¬ (e.K = 3 ∧ f.K = 3 ∧ e.N = f.N)) :
    Calls Tryd.prog 50 #[.pointer (some ⟨tb, 0, none⟩), .pointer (some ⟨e.b, 0, none⟩)] w fun x w' => x = .returned (.tuple #[]) ∧
      ∃ X', Tv w' tb X' (xo ++ yo) M ∧ Wx X w w' ∧ ∀ k, X' k → X k ∨ w.heap.size ≤ k := by
  have hmem : ∀ f ∈ xo ++ yo, f ∈ xo ++ e :: yo := fun f hf => by
    rcases List.mem_append.1 hf with c | c
    · exact List.mem_append_left _ c
    · exact List.mem_append_right _ (List.mem_cons_of_mem _ c)
  rcases h.bod with ⟨e0, _⟩ | ⟨g, n, c, m, cs, W, s, t⟩
  · simp at e0
  have hlen : (xo ++ e :: yo).length = xo.length + yo.length + 1 := by simp; omega
  have hlen2 : (xo ++ yo).length = xo.length + yo.length := by simp
  have hfew := h.few
  have hg1 : g ≠ 1 := fun k => h.no1 (k ▸ t.xg)
  have hdr : Dr w tb g n c m cs W s xo e yo :=
    ⟨h.ord, t.kb, t.kc, t.row.1, fun o => h.free tb o h.own, fun f hf o => h.free f.b o (h.ent f hf).1, t.row.2, h.u64 e (by simp), h.db, t.gt, t.gc, hg1, fun k => h.no1 (k ▸ h.own), t.ec, fun f hf k => h.no1 (k ▸ (h.ent f hf).1), fun f hf => (h.ent f hf).2⟩
  have hu : ∀ f ∈ xo ++ yo, U64 f.N := fun f hf => h.u64 f (hmem f hf)
  have hent : ∀ f ∈ xo ++ yo, X f.b ∧ Blk w f.b := fun f hf => h.ent f (hmem f hf)
  have hfull := t.full
  have hj := bk_lt e.H t.kb.pos
  -- what is written ahead of a spreading
  have hA3 : ∀ (p r : List En), cs (bk e.H n) = p ++ e :: r → ∀ k o, (k, o) ∈ ([linkOf g (bk e.H n) p] ++ dropA tb xo yo) ++ [(c, bitN m e.K e.N / 64), (tb, 9)] → X k ∧ (k = tb → 4 ≤ o) := by
    intro p r hc k o hm
    rcases List.mem_append.1 hm with hm | hm
    · rcases List.mem_append.1 hm with hm | hm
      · rcases linkOf_cases (List.mem_singleton.1 hm) with ⟨q1, q2⟩ | ⟨q1, x, hx, q2⟩
        · exact ⟨q1 ▸ t.xg, fun k1 => absurd (q1.symm.trans k1) t.gt⟩
        · have hx2 := ((t.kb.mem _ hj x).1 (by rw [hc]; exact List.mem_append_left _ hx)).1
          exact ⟨q2 ▸ (h.ent x hx2).1, fun _ => by omega⟩
      · rcases dropA_cases hm with ⟨q1, q2⟩ | ⟨q1, z, hz, q2⟩ | ⟨q1, y, l, hy, q2⟩
        · exact ⟨q1 ▸ h.own, fun _ => by omega⟩
        · exact ⟨q2 ▸ (h.ent z (List.mem_append_left _ (List.mem_of_getLast? hz))).1, fun _ => by omega⟩
        · exact ⟨q2 ▸ (h.ent y (by rw [hy]; simp)).1, fun _ => by omega⟩
    · simp only [List.mem_cons, Prod.mk.injEq, List.not_mem_nil, or_false] at hm
      rcases hm with ⟨q1, _⟩ | ⟨q1, q2⟩
      · exact ⟨q1 ▸ t.xc, fun k1 => absurd (k1.symm.trans q1) t.kc.ne⟩
      · exact ⟨q1 ▸ h.own, fun _ => by omega⟩
  have hsz := sz_drop t.sz h.u64 hn
  obtain ⟨kn, hkn⟩ := t.n4
  by_cases hs : 4 < n ∧ xo.length + yo.length < n / 4
  · refine (drop_shrink tb g n c m cs W s xo e yo w hdr hs hu (n / 2) ((n / 2 + 63) / 64) rfl rfl (by omega)).mono ?_
    rintro x w' ⟨rfl, p, r, w1, w2, w3, hc, a1, a2, a3, b1, b2, b3, w4, W1, d1, d2, d3⟩
    refine ⟨rfl, ?_⟩
    obtain ⟨kn, rfl⟩ : ∃ k, kn = k + 1 := by
      cases kn with
      | zero => omega
      | succ k => exact ⟨k, rfl⟩
    have hn4 : ∃ k, n / 2 = 4 * 2 ^ k := ⟨kn, by rw [hkn, Nat.pow_succ]; omega⟩
    have hpos : 1 ≤ 2 ^ kn := Nat.one_le_two_pow
    have hnb : 8 ≤ n := by rw [hkn, Nat.pow_succ]; omega
    have ht := ((((a1.trans a2).trans a3).trans d1).trans d2.wr).trans d3.wt
    have hs4 : w.heap.size ≤ w4.heap.size := by have := a1.size; have := a2.size; have := a3.size; have := d1.size; omega
    have hs1 := d2.size
    obtain ⟨cs', hcs'⟩ := d3.bx
    have hfl : ∀ f ∈ xo ++ yo, f.b < w.heap.size := fun f hf => h.lt _ (hent f hf).1
    have htl := h.lt tb h.own
    have hsp : ∀ k o, (k, o) ∈ spA tb w4.heap.size (w4.heap.size + 1) (n / 2) ((n / 2 + 63) / 64) (xo ++ yo) → (X k ∧ (k = tb → 4 ≤ o) ∧ k < w.heap.size ∧ (o = 9)) ∨ w.heap.size ≤ k := by
      intro k o hm
      rcases spA_mem hm with ⟨f, hf, q1, q2⟩ | q1 | q1 | ⟨q1, q2⟩
      · exact Or.inl ⟨q1 ▸ (hent f hf).1, fun _ => by omega, by rw [q1]; exact hfl f hf, q2⟩
      · exact Or.inr (by omega)
      · exact Or.inr (by omega)
      · exact Or.inl ⟨q1 ▸ h.own, fun _ => by omega, by rw [q1]; exact htl, q2⟩
    have hor : Or w' tb (xo ++ yo) := by
      have o1 := b1.wr d1 (by simp) (by simp) (by simp) (fun f hf => ⟨by simp, by simp⟩)
      have o2 := o1.wr d2.wr (by simp) (by simp) (by simp) (fun f hf => by
        have := h.ord.apart f (hmem f hf)
        simp only [List.mem_cons, Prod.mk.injEq, List.not_mem_nil, or_false]
        omega)
      refine o2.wr d3.wt ?_ ?_ ?_ (fun f hf => ⟨?_, ?_⟩)
      all_goals
        intro hm
        rcases hsp _ _ hm with ⟨_, _, _, q⟩ | q
        · omega
        · first
            | omega
            | (have := hfl f hf; omega)
    have hrow : Rw w' tb w4.heap.size (n / 2) := by
      refine ⟨d3.wt.cell (fun hm => ?_) d2.c7, fun j => (d3.wt.2.1 _ j (by omega)).trans (d2.zg j)⟩
      rcases hsp _ _ hm with ⟨_, _, _, q⟩ | q <;> omega
    refine Tv.mk' (Y := X) h.own h.lt h.no1 h.free h.db h.mt ht (fun k o hm => ?_) hor (by omega) hu hent ⟨hcs', d3.cx, cntF_sz _ _, hrow, by omega, by omega, hn4, by have := t.nfew; omega, trivial, trivial, by omega, by omega, fun f hf => by have := hfl f hf; omega⟩ (Or.inr (by omega)) (Or.inr (by omega))
    rcases List.mem_append.1 hm with hm | hm
    · rcases List.mem_append.1 hm with hm | hm
      · rcases List.mem_append.1 hm with hm | hm
        · exact Or.inl (hA3 p r hc k o hm)
        · cases hm
      · simp only [List.mem_cons, Prod.mk.injEq, List.not_mem_nil, or_false] at hm
        have hk : k = tb := by omega
        exact Or.inl ⟨hk ▸ h.own, fun _ => by omega⟩
    · rcases hsp k o hm with ⟨q1, q2, _⟩ | q
      · exact Or.inl ⟨q1, q2⟩
      · exact Or.inr q
  · refine (drop_stay tb g n c m cs W s xo e yo w hdr hs (by omega)).mono ?_
    rintro x w' ⟨rfl, p, r, w1, w2, w3, hc, a1, a2, a3, b1, b2, b3, d1⟩
    refine ⟨rfl, ?_⟩
    have ht3 := (a1.trans a2).trans a3
    have ht := ht3.trans d1
    have hrow : Rw w' tb g n := by
      have htr : ∀ o, o = 7 → (tb, o) ∉ ([linkOf g (bk e.H n) p] ++ dropA tb xo yo) ++ [(c, bitN m e.K e.N / 64), (tb, 9)] := by
        intro o ho hm
        rcases List.mem_append.1 hm with hm | hm
        · rcases List.mem_append.1 hm with hm | hm
          · rcases linkOf_cases (List.mem_singleton.1 hm) with ⟨q1, _⟩ | ⟨q1, _⟩
            · exact t.gt q1.symm
            · omega
          · rcases dropA_cases hm with ⟨_, q2⟩ | ⟨q1, _⟩ | ⟨q1, _⟩ <;> omega
        · simp only [List.mem_cons, Prod.mk.injEq, List.not_mem_nil, or_false] at hm
          rcases hm with ⟨q1, _⟩ | ⟨_, q2⟩
          · exact t.kc.ne q1
          · omega
      refine ⟨d1.cell (by simp) (ht3.cell (htr 7 rfl) t.row.1), fun j => (ht.2.1 g j t.kb.lt).trans (t.row.2 j)⟩
    refine Tv.mk' (Y := X) h.own h.lt h.no1 h.free h.db h.mt ht (fun k o hm => ?_) (b1.wr d1 (by simp) (by simp) (by simp) (fun f hf => ⟨by simp, by simp⟩)) (by omega) hu hent
      ⟨b2.wr d1 (fun j => by simp) (fun f hf o _ => by simp), b3.wr d1 (by simp) (by simp) (fun i => by simp), hsz, hrow, by omega, t.words, t.n4, t.nfew, trivial, trivial, t.gt, t.gc, fun f hf => t.ec f (hmem f hf)⟩ (Or.inl t.xg) (Or.inl t.xc)
    rcases List.mem_append.1 hm with hm | hm
    · exact Or.inl (hA3 p r hc k o hm)
    · cases hm

end Go.Proofs.YtjkedocppbcncaaDoor

/-
  Layer 9: a key's value becomes another, on tables as a whole.
-/
namespace Go.Proofs.YtjkedocppbcncaaDoor
set_option maxRecDepth 100000
open Go.RowKit Flo

/-- Entries with another value alone. -/
structure Uk (u : En → En) : Prop where
  b : ∀ e, (u e).b = e.b
  K : ∀ e, (u e).K = e.K
  N : ∀ e, (u e).N = e.N
  S : ∀ e, (u e).S = e.S
  O : ∀ e, (u e).O = e.O
  H : ∀ e, (u e).H = e.H
theorem Uk.hd {u : En → En} (h : Uk u) : ∀ l : List En, hd (l.map u) = hd l
  | [] => rfl
  | e :: l => by rw [List.map_cons, Go.Proofs.YtjkedocppbcncaaDoor.hd, Go.Proofs.YtjkedocppbcncaaDoor.hd, h.b]
theorem Uk.lk {u : En → En} (h : Uk u) {w : World} {o : Nat} : ∀ {l : List En}, Lk w o l → Lk w o (l.map u)
  | [], _ => trivial
  | e :: l, k => ⟨by rw [h.b, h.hd]; exact k.1, h.lk k.2⟩
theorem Uk.bs {u : En → En} (h : Uk u) (l : List En) : (l.map u).map En.b = l.map En.b := by rw [List.map_map]; exact List.map_congr_left (fun e _ => h.b e)
theorem Uk.hasP {u : En → En} (h : Uk u) (m : Nat) (es : List En) (p : Nat) : hasP m es p ↔ Go.Proofs.YtjkedocppbcncaaDoor.hasP m (es.map u) p := by
  unfold Go.Proofs.YtjkedocppbcncaaDoor.hasP
  constructor
  · rintro ⟨e, he, h1, h2⟩
    exact ⟨u e, List.mem_map_of_mem he, by rw [h.K, h.N]; exact h1, by rw [h.K, h.N]; exact h2⟩
  · rintro ⟨f, hf, h1, h2⟩
    obtain ⟨e, he, rfl⟩ := List.mem_map.1 hf
    rw [h.K, h.N] at h1 h2
    exact ⟨e, he, h1, h2⟩
theorem Uk.or {u : En → En} (h : Uk u) {w : World} {tb : Nat} {es : List En} (k : Or w tb es) : Or w tb (es.map u) :=
  ⟨by rw [List.length_map]; exact k.keys, by rw [h.hd]; exact k.first, by rw [← List.map_reverse, h.hd]; exact k.last, h.lk k.behind, by rw [← List.map_reverse]; exact h.lk k.ahead, by rw [h.bs]; exact k.once, fun f hf => by
    obtain ⟨e, he, rfl⟩ := List.mem_map.1 hf
    rw [h.b]; exact k.apart e he⟩
/-- The chains of entries that have other values. -/
theorem Uk.bk {u : En → En} (h : Uk u) {w w' : World} {g n : Nat} {cs : Nat → List En} {es : List En} (k : Bk w g n cs es) (hw : w.heap.size ≤ w'.heap.size) (hg : ∀ j, j < n → w'.cell? ⟨g, j, none⟩ = w.cell? ⟨g, j, none⟩) (h9 : ∀ e ∈ es, w'.cell? ⟨e.b, 9, none⟩ = w.cell? ⟨e.b, 9, none⟩)
    (hen : ∀ e ∈ es, EnC w' (u e)) : Bk w' g n (fun j => (cs j).map u) (es.map u) := by
  have hlk : ∀ l : List En, (∀ e ∈ l, e ∈ es) → Lk w 9 l → Lk w' 9 l := by
    intro l
    induction l with
    | nil => intro _ _; trivial
    | cons e l ih => intro hm hl; exact ⟨(h9 e (hm e List.mem_cons_self)).trans hl.1, ih (fun x hx => hm x (List.mem_cons_of_mem _ hx)) hl.2⟩
  refine ⟨k.pos, k.few, Nat.lt_of_lt_of_le k.lt hw, fun j hj => by rw [h.hd, hg j hj]; exact k.head j hj, fun j hj => h.lk (hlk _ (fun e he => ((k.mem j hj e).1 he).1) (k.chain j hj)), fun j hj f => ?_, fun f hf => ?_, fun f hf => ?_, fun f hf f' hf' a b c d => ?_, fun j hj => ?_, fun f hf f' hf' a => ?_, fun f hf => ?_⟩
  · constructor
    · intro hf
      obtain ⟨e, he, rfl⟩ := List.mem_map.1 hf
      obtain ⟨h1, h2⟩ := (k.mem j hj e).1 he
      exact ⟨List.mem_map_of_mem h1, by rw [h.H]; exact h2⟩
    · rintro ⟨hf, hb⟩
      obtain ⟨e, he, rfl⟩ := List.mem_map.1 hf
      rw [h.H] at hb
      exact List.mem_map_of_mem ((k.mem j hj e).2 ⟨he, hb⟩)
  · obtain ⟨e, he, rfl⟩ := List.mem_map.1 hf
    exact ⟨hen e he, by rw [h.b]; exact Nat.lt_of_lt_of_le (k.lies e he).2 hw⟩
  · obtain ⟨e, he, rfl⟩ := List.mem_map.1 hf
    rw [h.H, h.K, h.N, h.S, h.O]; exact k.hash e he
  · obtain ⟨e, he, rfl⟩ := List.mem_map.1 hf
    obtain ⟨e', he', rfl⟩ := List.mem_map.1 hf'
    rw [h.K, h.K] at a; rw [h.N, h.N] at b; rw [h.S, h.S] at c; rw [h.O, h.O] at d
    rw [k.own e he e' he' a b c d]
  · have hnd := k.once j hj
    have hsub : ∀ e ∈ cs j, e ∈ es := fun e he => ((k.mem j hj e).1 he).1
    refine List.Pairwise.map u ?_ (List.Pairwise.imp_of_mem (S := fun a b => a.b ≠ b.b) (fun {a b} ha hb q c => q (k.block a (hsub a ha) b (hsub b hb) c)) hnd)
    intro a b q c
    exact q (by rw [← h.b a, ← h.b b, c])
  · obtain ⟨e, he, rfl⟩ := List.mem_map.1 hf
    obtain ⟨e', he', rfl⟩ := List.mem_map.1 hf'
    rw [h.b, h.b] at a
    rw [k.block e he e' he' a]
  · obtain ⟨e, he, rfl⟩ := List.mem_map.1 hf
    rw [h.b]; exact k.apart e he

/-- The entry in the block b with the value v, all others as they are. -/
def upV (b : Nat) (v : V4) (e : En) : En := if e.b = b then { e with vK := v.K, vN := v.N, vS := v.S, vO := v.O } else e
theorem upV_uk (b : Nat) (v : V4) : Uk (upV b v) := by
  refine ⟨fun e => ?_, fun e => ?_, fun e => ?_, fun e => ?_, fun e => ?_, fun e => ?_⟩ <;> (unfold upV; split <;> rfl)
def setV (w : World) (b : Nat) (v : V4) : World := (((w.setCell ⟨b, 4, none⟩ (.int .i64 v.K)).setCell ⟨b, 5, none⟩ (.int .u64 v.N)).setCell ⟨b, 6, none⟩ (.string v.S)).setCell ⟨b, 7, none⟩ (.int .i64 v.O)
theorem setV_wr (w : World) (b : Nat) (v : V4) : Wr [(b, 4), (b, 5), (b, 6), (b, 7)] w (setV w b v) :=
  ((((Wr.set w b 4 _).trans (Wr.set _ b 5 _)).trans (Wr.set _ b 6 _)).trans (Wr.set _ b 7 _)).more (fun a ha => by simpa using ha)
theorem setV_en {w : World} {e : En} (h : EnC w e) (v : V4) : EnC (setV w e.b v) (upV e.b v e) := by
  have hw := setV_wr w e.b v
  obtain ⟨h0, h1, h2, h3, h4, h5, h6, h7, h8⟩ := h
  have hn : ∀ o, o < 4 ∨ 7 < o → (e.b, o) ∉ [(e.b, 4), (e.b, 5), (e.b, 6), (e.b, 7)] := fun o ho hm => by
    simp only [List.mem_cons, Prod.mk.injEq, List.not_mem_nil, or_false] at hm; omega
  unfold upV
  rw [if_pos rfl]
  refine ⟨hw.cell (hn 0 (by omega)) h0, hw.cell (hn 1 (by omega)) h1, hw.cell (hn 2 (by omega)) h2, hw.cell (hn 3 (by omega)) h3, ?_, ?_, ?_, ?_, hw.cell (hn 8 (by omega)) h8⟩
  · unfold setV
    rw [World.cell?_setCell_other _ _ _ _ (by simp), World.cell?_setCell_other _ _ _ _ (by simp), World.cell?_setCell_other _ _ _ _ (by simp)]
    exact World.cell?_setCell_same _ _ _ h4
  · unfold setV
    rw [World.cell?_setCell_other _ _ _ _ (by simp), World.cell?_setCell_other _ _ _ _ (by simp)]
    exact World.cell?_setCell_same _ _ _ (by rw [World.cell?_setCell_other _ _ _ _ (by simp)]; exact h5)
  · unfold setV
    rw [World.cell?_setCell_other _ _ _ _ (by simp)]
    exact World.cell?_setCell_same _ _ _ (by rw [World.cell?_setCell_other _ _ _ _ (by simp), World.cell?_setCell_other _ _ _ _ (by simp)]; exact h6)
  · unfold setV
    exact World.cell?_setCell_same _ _ _ (by rw [World.cell?_setCell_other _ _ _ _ (by simp), World.cell?_setCell_other _ _ _ _ (by simp), World.cell?_setCell_other _ _ _ _ (by simp)]; exact h7)
/-- A key that is there has another value. -/
theorem Tv.over {w : World} {tb : Nat} {X : Nat → Prop} {es : List En} {M : V4} {f : En} (h : Tv w tb X es M) (hf : f ∈ es) (v : V4) : Tv (setV w f.b v) tb X (es.map (upV f.b v)) M ∧ Wx X w (setV w f.b v) := by
  have hu := upV_uk f.b v
  have hw := setV_wr w f.b v
  have hA : ∀ k o, (k, o) ∈ [(f.b, 4), (f.b, 5), (f.b, 6), (f.b, 7)] → k = f.b ∧ 4 ≤ o ∧ o ≤ 7 := fun k o hm => by
    simp only [List.mem_cons, Prod.mk.injEq, List.not_mem_nil, or_false] at hm; omega
  have hnk : ∀ k o, k ≠ f.b → (k, o) ∉ [(f.b, 4), (f.b, 5), (f.b, 6), (f.b, 7)] := fun k o hk hm => hk (hA k o hm).1
  have hno : ∀ k o, 8 ≤ o → (k, o) ∉ [(f.b, 4), (f.b, 5), (f.b, 6), (f.b, 7)] := fun k o ho hm => by have := (hA k o hm).2; omega
  have htb : tb ≠ f.b := fun c => h.ord.apart f hf c.symm
  have hs : w.heap.size ≤ (setV w f.b v).heap.size := hw.size
  have hwx : Wx X w (setV w f.b v) := Wx.of hw (fun k o hm => Or.inl ((hA k o hm).1 ▸ (h.ent f hf).1))
  have hen : ∀ e ∈ es, EnC w e → EnC (setV w f.b v) (upV f.b v e) := fun e he k => by
    by_cases c : e.b = f.b
    · rw [← c]; exact setV_en k v
    · unfold upV
      rw [if_neg c]
      exact k.off hw.off (fun o _ => hnk _ _ c)
  refine ⟨⟨h.own, fun k hk => Nat.lt_of_lt_of_le (h.lt k hk) hs, h.no1, fun k o hk => (hw.2.1 k o (h.lt k hk)).trans (h.free k o hk), fun j hj => hw.cell (hnk 1 j (fun c => h.no1 (c ▸ (h.ent f hf).1))) (h.db j hj), h.mt.wr hw (fun i _ => hnk _ _ htb),
    hu.or (h.ord.wr hw (hnk _ _ htb) (hnk _ _ htb) (hnk _ _ htb) (fun e he => ⟨hno _ _ (by omega), hno _ _ (by omega)⟩)), by rw [List.length_map]; exact h.few, fun e he => ?_, fun e he => ?_, ?_⟩, hwx⟩
  · obtain ⟨x, hx, rfl⟩ := List.mem_map.1 he
    rw [hu.N]; exact h.u64 x hx
  · obtain ⟨x, hx, rfl⟩ := List.mem_map.1 he
    rw [hu.b]; exact ⟨(h.ent x hx).1, hw.blk (h.ent x hx).2⟩
  · rcases h.bod with ⟨e0, _⟩ | ⟨g, n, c, m, cs, W, s, t⟩
    · rw [e0] at hf; cases hf
    · have hgf : g ≠ f.b := fun q => t.kb.apart f hf q.symm
      have hcell : ∀ k o u, w.cell? ⟨k, o, none⟩ = some u → (k, o) ∉ [(f.b, 4), (f.b, 5), (f.b, 6), (f.b, 7)] → (setV w f.b v).cell? ⟨k, o, none⟩ = w.cell? ⟨k, o, none⟩ := fun k o u hc hn => (hw.cell hn hc).trans hc.symm
      refine Or.inr ⟨g, n, c, m, _, W, s, hu.bk t.kb hs (fun j hj => hcell g j _ (t.kb.head j hj) (hnk _ _ hgf)) (fun e he => ?_) (fun e he => hen e he (t.kb.lies e he).1), t.kc.wr hw (hnk _ _ htb) (hnk _ _ htb) (fun i => hnk _ _ (fun q => t.ec f hf q.symm)), t.sz.same (fun p _ => hu.hasP m es p), ⟨hw.cell (hnk _ _ htb) t.row.1, fun j => (hw.2.1 g j t.kb.lt).trans (t.row.2 j)⟩,
        by rw [List.length_map]; exact t.full, t.words, t.n4, t.nfew, t.xg, t.xc, t.gt, t.gc, fun e he => ?_⟩
      · have hjf := bk_lt e.H t.kb.pos
        obtain ⟨q, hq⟩ := lkSome (t.kb.chain _ hjf) e ((t.kb.mem _ hjf e).2 ⟨he, rfl⟩)
        exact hcell e.b 9 _ hq (hno _ _ (by omega))
      · obtain ⟨x, hx, rfl⟩ := List.mem_map.1 he
        rw [hu.b]; exact t.ec x hx

end Go.Proofs.YtjkedocppbcncaaDoor

/-
  Layer 9: set where the key is there.
-/
namespace Go.Proofs.YtjkedocppbcncaaDoor
set_option maxRecDepth 100000
open Go.RowKit Flo

/-- The heap behind a key that has another value. -/
theorem Hv.overw {w : World} {hb lim used i tb : Nat} {R : Value} {os : List Ob} {Z : Nat → Prop} {x : Ob} {f : En} (h : Hv w hb lim used R os Z) (hi : os[i]? = some x) (ht : x.tb = some tb) (hf : f ∈ x.es) (v : V4) :
    Hv (setV w f.b v) hb lim used R (os.set i { x with es := x.es.map (upV f.b v) }) (Zn Z w.heap.size (setV w f.b v).heap.size) ∧ Wx Z w (setV w f.b v) := by
  have h0 := (h.ob i x hi).tab tb ht
  obtain ⟨k1, k2⟩ := h0.2.1.over hf v
  refine h.put0 (o' := { x with es := x.es.map (upV f.b v) }) hi k2 (fun j hj => Or.inl hj) rfl ⟨fun t e1 => ?_, fun e1 => ?_⟩ (fun j hj => Or.inl hj) (fun j hj => k1.lt j hj) rfl (h.mt i x hi) (by simp only [Ob.wt, List.length_map])
  · have e2 : x.tb = some t := e1
    rw [ht] at e2
    injection e2 with e2
    subst e2
    refine ⟨h0.1, k1, fun e he => ?_⟩
    obtain ⟨y, hy, rfl⟩ := List.mem_map.1 he
    have hu := upV_uk f.b v
    have := h0.2.2 y hy
    unfold keyOk at this ⊢
    rw [hu.K, hu.N, hu.S, hu.O]
    exact this
  · have e2 : x.tb = none := e1
    rw [ht] at e2; cases e2

theorem key_num {e f : En} (he : keyOk e) (hf : keyOk f) (h1 : e.K = 3) (h2 : f.K = 3) : e.S = f.S ∧ e.O = f.O := by
  obtain ⟨_, _, _, a, b⟩ := he
  obtain ⟨_, _, _, c, d⟩ := hf
  rw [h1] at a b
  rw [h2] at c d
  exact ⟨a.symm.trans c, b.symm.trans d⟩
/-- The heap behind a key that goes. -/
theorem Hv.gone {w w5 : World} {hb lim used i tb : Nat} {R : Value} {os : List Ob} {Z : Nat → Prop} {x : Ob} {xo yo : List En} {f : En} {X' : Nat → Prop} (h : Hv w hb lim used R os Z) (hi : os[i]? = some x) (ht : x.tb = some tb) (hes : x.es = xo ++ f :: yo)
    (hT : Tv w5 tb X' (xo ++ yo) x.M) (hW : Wx x.X w w5) (hX' : ∀ k, X' k → x.X k ∨ w.heap.size ≤ k) :
    Hv (w5.setCell ⟨hb, 1, none⟩ (.int .i64 ((used - 1 : Nat) : Int))) hb lim (used - 1) R (os.set i { x with es := xo ++ yo, X := X' }) (Zn Z w.heap.size (w5.setCell ⟨hb, 1, none⟩ (.int .i64 ((used - 1 : Nat) : Int))).heap.size) ∧ Wx Z w (w5.setCell ⟨hb, 1, none⟩ (.int .i64 ((used - 1 : Nat) : Int))) := by
  have h0 := (h.ob i x hi).tab tb ht
  have hge := sum_ge os i x hi
  have hsum := h.sum
  have hwt : x.wt = 1 + x.es.length + x.sl.length := rfl
  have hlen : x.es.length = xo.length + yo.length + 1 := by rw [hes]; simp; omega
  refine h.put (o' := { x with es := xo ++ yo, X := X' }) hi hW (fun j hj => Or.inl hj) rfl ⟨fun t e1 => ?_, fun e1 => ?_⟩ hX' (fun j hj => hT.lt j hj) rfl (h.mt i x hi) ?_ (by have := h.hu; omega)
  · have e2 : x.tb = some t := e1
    rw [ht] at e2
    injection e2 with e2
    subst e2
    refine ⟨h0.1, hT, fun e he => h0.2.2 e ?_⟩
    have he2 : e ∈ xo ++ yo := he
    rw [hes]
    rcases List.mem_append.1 he2 with c | c
    · exact List.mem_append_left _ c
    · exact List.mem_append_right _ (List.mem_cons_of_mem _ c)
  · have e2 : x.tb = none := e1
    rw [ht] at e2; cases e2
  · have : ({ x with es := xo ++ yo, X := X' } : Ob).wt = 1 + (xo.length + yo.length) + x.sl.length := by simp only [Ob.wt, List.length_append]
    omega

/-- What drop needs to know of numbers. -/
theorem Tv.apart_num {w : World} {tb : Nat} {X : Nat → Prop} {xo yo : List En} {f : En} {M : V4} (h : Tv w tb X (xo ++ f :: yo) M) (hk : ∀ e ∈ xo ++ f :: yo, keyOk e) : ∀ g ∈ xo ++ yo, ¬ (f.K = 3 ∧ g.K = 3 ∧ f.N = g.N) := by
  rintro g hg ⟨a, b, c⟩
  have hg2 : g ∈ xo ++ f :: yo := by
    rcases List.mem_append.1 hg with d | d
    · exact List.mem_append_left _ d
    · exact List.mem_append_right _ (List.mem_cons_of_mem _ d)
  obtain ⟨hs, ho⟩ := key_num (hk f (by simp)) (hk g hg2) a b
  rcases h.bod with ⟨e0, _⟩ | ⟨gg, n, cc, m, cs, W, s, t⟩
  · simp at e0
  · have e := t.kb.own f (by simp) g hg2 (a.trans b.symm) c hs ho
    have hnd : (xo ++ f :: yo).Nodup := List.Pairwise.of_map En.b (fun a b q k => q (by rw [k])) h.ord.once
    have hnd2 := List.nodup_append.1 hnd
    rcases List.mem_append.1 hg with d | d
    · exact hnd2.2.2 g d f (by simp) e.symm
    · exact (List.nodup_cons.1 hnd2.2.1).1 (e ▸ d)

/-- What becomes of a heap by a value under a key that is there. -/
def Over (w : World) (hb lim used i : Nat) (R : Value) (os : List Ob) (Z : Nat → Prop) (x : Ob) (f : En) (v : V4) (w' : World) : Prop :=
  Hv w' hb lim used R (os.set i { x with es := x.es.map (upV f.b v) }) (Zn Z w.heap.size w'.heap.size) ∧ Wx Z w w'
def Gone (w : World) (hb lim used i : Nat) (R : Value) (os : List Ob) (Z : Nat → Prop) (x : Ob) (xo yo : List En) (w' : World) : Prop :=
  ∃ X', Hv w' hb lim (used - 1) R (os.set i { x with es := xo ++ yo, X := X' }) (Zn Z w.heap.size w'.heap.size) ∧ Wx Z w w'
theorem Zn.more {w : World} {hb lim used : Nat} {R : Value} {os : List Ob} {Z : Nat → Prop} {a b c : Nat} (h : Hv w hb lim used R os (Zn Z b c)) (hZ : ∀ k, Z k → k < w.heap.size) (hab : a ≤ b) (ha : 1 < a) (hc : c ≤ w.heap.size) (h1 : ¬ Z 1) : Hv w hb lim used R os (Zn Z a c) :=
  ⟨h.c0, h.c1, h.c2, h.hfree, h.row, h.hl, h.hu, h.sum, h.ob, h.mt, fun k hk => by
      rcases hk with c | c
      · exact hZ k c
      · omega,
    fun c => by
      rcases c with c | c
      · exact h1 c
      · omega,
    (by
      rcases h.zh with c | c
      · exact Or.inl c
      · exact Or.inr ⟨by omega, c.2⟩), fun g hg => ⟨by
      rcases (h.zr g hg).1 with c | c
      · exact Or.inl c
      · exact Or.inr ⟨by omega, c.2⟩, (h.zr g hg).2⟩,
    fun j p hp k hk => ⟨by
      rcases (h.zx j p hp k hk).1 with c | c
      · exact Or.inl c
      · exact Or.inr ⟨by omega, c.2⟩, (h.zx j p hp k hk).2⟩, h.xx, h.db⟩

set_option maxHeartbeats 4000000 in
theorem set_over {w : World} {hb lim used i tb : Nat} {R : Value} {os : List Ob} {Z : Nat → Prop} {x : Ob} {f : En} (h : Hv w hb lim used R os Z) (hi : os[i]? = some x) (ht : x.tb = some tb) (K N : Int) (S : ByteArray) (O vK vN : Int) (vS : ByteArray) (vO : Int) (hS : S.size ≤ 9223372036854775807) (hvK : vK ≠ 0) (hsome : ofKey K N S O x.es = some f) :
    Calls Tryd.prog 32 #[.pointer (some ⟨hb, 0, none⟩), .pointer (some ⟨tb, 0, none⟩), .agg #[.int .i64 K, .int .u64 N, .string S, .int .i64 O], .agg #[.int .i64 vK, .int .u64 vN, .string vS, .int .i64 vO]] w fun e w' => e = .returned (.int .i64 0) ∧ Over w hb lim used i R os Z x f ⟨vK, vN, vS, vO⟩ w' := by
  have hfm : f ∈ x.es := List.mem_of_find?_eq_some hsome
  have HB : Hid (Below w.heap.size w ((w.alloc (.cells #[.int .i64 K, .int .u64 N, .string S, .int .i64 O] 35)).alloc (.cells #[.int .i64 vK, .int .u64 vN, .string vS, .int .i64 vO] 35))) := ((Below.refl _ _).alloc (Nat.le_refl _) _).alloc (by simp) _
  have HH : Hid (∀ w', Calls Tryd.prog 37 #[.agg #[.int .i64 K, .int .u64 N, .string S, .int .i64 O]] w' fun e w2 => e = .returned (.int .u64 (hZ K N S O)) ∧ Below w'.heap.size w' w2) := fun w' => hash_any _ _ _ _ w' hS
  have HF : Hid (∀ w', Below w.heap.size w w' → Calls Tryd.prog 49 #[.pointer (some ⟨tb, 0, none⟩), .agg #[.int .i64 K, .int .u64 N, .string S, .int .i64 O], .int .u64 (hZ K N S O)] w' fun e w2 => e = .returned (.pointer (some ⟨f.b, 0, none⟩)) ∧ Below w'.heap.size w' w2) := fun w' hb' => by
    have := tab_find (((h.below hb').ob i x hi).tab tb ht).2.1 K N S O
    rw [hsome] at this
    exact this
  have HQ : Hid (∀ w2, Below w.heap.size w w2 → (EnC w2 f ∧ ∀ o, w2.frozen? ⟨f.b, o, none⟩ = false) ∧ Over w hb lim used i R os Z x f ⟨vK, vN, vS, vO⟩ (setV w2 f.b ⟨vK, vN, vS, vO⟩)) := fun w2 hb2 => by
    have hv := h.below hb2
    have hT := ((hv.ob i x hi).tab tb ht).2.1
    refine ⟨⟨?_, fun o => hT.free f.b o (hT.ent f hfm).1⟩, ?_⟩
    · exact (hT.se.lies f hfm).1
    · obtain ⟨k1, k2⟩ := hv.overw hi ht hfm ⟨vK, vN, vS, vO⟩
      have hs := hb2.size
      have hs2 := k2.size
      exact ⟨Zn.more k1 (fun k hk => by have := h.lt k hk; omega) hs h.two (Nat.le_refl _) h.no1, (Wx.of_below Z hb2).trans k2 (fun k hk => Or.inl hk)⟩
  clear h hi ht hsome hfm
  generalize hZ K N S O = H at *
  go_enter Tryd.func32, Tryd.ntmps32
  go_wp2_with fail
  refine (HH.out _).mono ?_
  rintro e w1 ⟨rfl, hb1⟩
  obtain ⟨p0, p1, p2, p3⟩ := keep4 (b := w.heap.size) (v0 := .int .i64 K) (v1 := .int .u64 N) (v2 := .string S) (v3 := .int .i64 O) ⟨by go_simp, by go_simp, by go_simp, by go_simp⟩ hb1
  have hv1 := keep4 (b := w.heap.size + 1) (v0 := .int .i64 vK) (v1 := .int .u64 vN) (v2 := .string vS) (v3 := .int .i64 vO) ⟨by go_simp, by go_simp, by go_simp, by go_simp⟩ hb1
  have HB1 : Hid (Below w.heap.size w w1) := HB.out.trans (hb1.mono (by simp; omega))
  have HV1 : Hid (_ ∧ _) := hv1
  clear hb1 HB HH hv1
  go_wp2_with fail
  refine (HF.out _ HB1.out).mono ?_
  rintro e w2 ⟨rfl, hb2⟩
  obtain ⟨u0, u1, u2, u3⟩ := keep4 HV1.out hb2
  obtain ⟨⟨⟨_, _, _, _, e4, e5, e6, e7, _⟩, hfz⟩, hov⟩ := HQ.out w2 (HB1.out.trans (hb2.mono HB1.out.size))
  have HO : Hid (Over w hb lim used i R os Z x f ⟨vK, vN, vS, vO⟩ (setV w2 f.b ⟨vK, vN, vS, vO⟩)) := hov
  clear hb2 HB1 HV1 HF HQ hov p0 p1 p2 p3
  go_wp2
  go_ret
  exact ⟨rfl, HO.out⟩

set_option maxHeartbeats 4000000 in
theorem set_drop {w : World} {hb lim used i tb : Nat} {R : Value} {os : List Ob} {Z : Nat → Prop} {x : Ob} {f : En} (h : Hv w hb lim used R os Z) (hi : os[i]? = some x) (ht : x.tb = some tb) (K N : Int) (S : ByteArray) (O vN : Int) (vS : ByteArray) (vO : Int) (hS : S.size ≤ 9223372036854775807) (hsome : ofKey K N S O x.es = some f) (xo yo : List En) (hes : x.es = xo ++ f :: yo) :
    Calls Tryd.prog 32 #[.pointer (some ⟨hb, 0, none⟩), .pointer (some ⟨tb, 0, none⟩), .agg #[.int .i64 K, .int .u64 N, .string S, .int .i64 O], .agg #[.int .i64 0, .int .u64 vN, .string vS, .int .i64 vO]] w fun e w' => e = .returned (.int .i64 0) ∧ Gone w hb lim used i R os Z x xo yo w' := by
  have HB : Hid (Below w.heap.size w ((w.alloc (.cells #[.int .i64 K, .int .u64 N, .string S, .int .i64 O] 35)).alloc (.cells #[.int .i64 0, .int .u64 vN, .string vS, .int .i64 vO] 35))) := ((Below.refl _ _).alloc (Nat.le_refl _) _).alloc (by simp) _
  have HH : Hid (∀ w', Calls Tryd.prog 37 #[.agg #[.int .i64 K, .int .u64 N, .string S, .int .i64 O]] w' fun e w2 => e = .returned (.int .u64 (hZ K N S O)) ∧ Below w'.heap.size w' w2) := fun w' => hash_any _ _ _ _ w' hS
  have HF : Hid (∀ w', Below w.heap.size w w' → Calls Tryd.prog 49 #[.pointer (some ⟨tb, 0, none⟩), .agg #[.int .i64 K, .int .u64 N, .string S, .int .i64 O], .int .u64 (hZ K N S O)] w' fun e w2 => e = .returned (.pointer (some ⟨f.b, 0, none⟩)) ∧ Below w'.heap.size w' w2) := fun w' hb' => by
    have := tab_find (((h.below hb').ob i x hi).tab tb ht).2.1 K N S O
    rw [hsome] at this
    exact this
  have hpos : 1 ≤ used := by
    have hge := sum_ge os i x hi
    have hsum := h.sum
    have hwt : x.wt = 1 + x.es.length + x.sl.length := rfl
    omega
  have HQ : Hid (∀ w2, Below w.heap.size w w2 → Calls Tryd.prog 50 #[.pointer (some ⟨tb, 0, none⟩), .pointer (some ⟨f.b, 0, none⟩)] w2 fun e w5 => e = .returned (.tuple #[]) ∧ w5.cell? ⟨hb, 1, none⟩ = some (.int .i64 (used : Int)) ∧ w5.frozen? ⟨hb, 1, none⟩ = false ∧
      Gone w hb lim used i R os Z x xo yo (w5.setCell ⟨hb, 1, none⟩ (.int .i64 ((used : Int) - 1)))) := fun w2 hb2 => by
    have hv := h.below hb2
    have h0 := (hv.ob i x hi).tab tb ht
    have hT := h0.2.1
    have hk := h0.2.2
    rw [hes] at hT hk
    refine (tab_drop hT (hT.apart_num hk)).mono ?_
    rintro e w5 ⟨rfl, X', k1, k2, k3⟩
    have hnb : ¬ x.X hb := fun c => (h.zx i x hi hb c).2.1 rfl
    obtain ⟨m1, m2⟩ := hv.gone hi ht hes k1 k2 k3
    have hs := hb2.size
    have hs2 := m2.size
    refine ⟨rfl, k2.cell hnb hv.c1, (k2.frozen (hv.lt hb hv.zh) hnb).trans (hv.hfree 1), X', ?_⟩
    rw [show ((used : Int) - 1) = ((used - 1 : Nat) : Int) by omega]
    exact ⟨Zn.more m1 (fun k hk => by have := h.lt k hk; omega) hs h.two (Nat.le_refl _) h.no1, (Wx.of_below Z hb2).trans m2 (fun k hk => Or.inl hk)⟩
  have hu1 : used ≤ 1048576 := by have := h.hl; have := h.hu; omega
  clear h hi ht hsome hes
  generalize hZ K N S O = H at *
  go_enter Tryd.func32, Tryd.ntmps32
  go_wp2_with fail
  refine (HH.out _).mono ?_
  rintro e w1 ⟨rfl, hb1⟩
  obtain ⟨p0, p1, p2, p3⟩ := keep4 (b := w.heap.size) (v0 := .int .i64 K) (v1 := .int .u64 N) (v2 := .string S) (v3 := .int .i64 O) ⟨by go_simp, by go_simp, by go_simp, by go_simp⟩ hb1
  have hv1 := keep4 (b := w.heap.size + 1) (v0 := .int .i64 0) (v1 := .int .u64 vN) (v2 := .string vS) (v3 := .int .i64 vO) ⟨by go_simp, by go_simp, by go_simp, by go_simp⟩ hb1
  have HB1 : Hid (Below w.heap.size w w1) := HB.out.trans (hb1.mono (by simp; omega))
  have HV1 : Hid (_ ∧ _) := hv1
  clear hb1 HB HH hv1
  go_wp2_with fail
  refine (HF.out _ HB1.out).mono ?_
  rintro e w2 ⟨rfl, hb2⟩
  obtain ⟨u0, u1, u2, u3⟩ := keep4 HV1.out hb2
  have HD := HQ.out w2 (HB1.out.trans (hb2.mono HB1.out.size))
  clear hb2 HB1 HV1 HF HQ p0 p1 p2 p3
  go_wp2_with fail
  refine HD.mono ?_
  rintro e w5 ⟨rfl, c1, f1, hg⟩
  have HG : Hid _ := hg
  clear hg HD
  go_wp2
  go_ret
  exact ⟨rfl, HG.out⟩

end Go.Proofs.YtjkedocppbcncaaDoor

/-
  Layer 9: Set, whatever set does.
-/
namespace Go.Proofs.YtjkedocppbcncaaDoor
set_option maxRecDepth 100000
open Go.RowKit Flo

set_option maxHeartbeats 4000000 in
theorem Set_of {w : World} {hb lim used i tb : Nat} {R : Value} {os : List Ob} {Z : Nat → Prop} {x : Ob} (h : Hv w hb lim used R os Z) (hi : os[i]? = some x) (ht : x.tb = some tb) (o : Int) (ho : o = (i : Int) + 1) (K N : Int) (S : ByteArray) (O vK vN : Int) (vS : ByteArray) (vO : Int) (hN2 : U64 N) (hvN : U64 vN) (hko : kok K N = true) (cd : Int) (P : World → Prop) (hset : ∀ w1, Below w.heap.size w w1 → Calls Tryd.prog 32 #[.pointer (some ⟨hb, 0, none⟩), .pointer (some ⟨tb, 0, none⟩), .agg #[.int .i64 (yK K N), .int .u64 (yN K N), .string (yS K N S), .int .i64 (yO K N O)], .agg #[.int .i64 (nK vK), .int .u64 (nN vK vN), .string (nS vK vS), .int .i64 (nO vK vO)]] w1 fun e w' => e = .returned (.int .i64 cd) ∧ P w' ∧ Wx Z w1 w') :
    Calls Tryd.prog 12 #[.pointer (some ⟨hb, 0, none⟩), .int .i64 o, .agg #[.int .i64 K, .int .u64 N, .string S, .int .i64 O], .agg #[.int .i64 vK, .int .u64 vN, .string vS, .int .i64 vO]] w fun e w' => e = .returned (.int .i64 cd) ∧ P w' := by
  have HT : Hid (∀ w', Below w.heap.size w w' → Calls Tryd.prog 30 #[.pointer (some ⟨hb, 0, none⟩), .int .i64 o] w' fun e w2 => e = .returned (.pointer (some ⟨tb, 0, none⟩)) ∧ w2 = w') := fun w' hb' => by
    have := tableOf_hv (h.below hb') o
    rw [show ptrOf os o = some ⟨tb, 0, none⟩ by unfold ptrOf; rw [ho, tabOf_of hi ht]; simp [Ob.ptr, ht]] at this
    exact this
  have HK : Hid (∀ w, Calls Tryd.prog 31 #[.agg #[.int .i64 K, .int .u64 N, .string S, .int .i64 O]] w fun e w' => e = .returned (.tuple #[.agg #[.int .i64 (yK K N), .int .u64 (yN K N), .string (yS K N S), .int .i64 (yO K N O)], .bool (kok K N)]) ∧ Below w.heap.size w w') := fun w => key_any K N S O w hN2
  have HB : Hid (Below w.heap.size w ((w.alloc (.cells #[.int .i64 K, .int .u64 N, .string S, .int .i64 O] 35)).alloc (.cells #[.int .i64 vK, .int .u64 vN, .string vS, .int .i64 vO] 35))) := ((Below.refl _ _).alloc (Nat.le_refl _) _).alloc (by simp) _
  rw [hko] at HK
  have HN : Hid (∀ w, Calls Tryd.prog 33 #[.agg #[.int .i64 vK, .int .u64 vN, .string vS, .int .i64 vO]] w fun e w' => e = .returned (.agg #[.int .i64 (nK vK), .int .u64 (nN vK vN), .string (nS vK vS), .int .i64 (nO vK vO)]) ∧ Below w.heap.size w w') := fun w => normal_any vK vN vS vO w hvN
  have HS : Hid _ := hset
  have HZ : Hid (∀ k, w.heap.size ≤ k → ¬ Z k) := fun k hk c => by have := h.lt k c; omega
  clear h hi ht ho hko hset
  generalize yK K N = YK at *
  generalize yN K N = YN at *
  generalize yS K N S = YS at *
  generalize yO K N O = YO at *
  generalize nK vK = NK at *
  generalize nN vK vN = NN at *
  generalize nS vK vS = NS at *
  generalize nO vK vO = NO at *
  go_enter Tryd.func12, Tryd.ntmps12
  go_wp2_with fail
  refine (HT.out _ HB.out).mono ?_
  rintro e w1 ⟨rfl, rfl⟩
  clear HT
  go_wp2_with fail
  refine (HK.out _).mono ?_
  rintro e w1 ⟨rfl, hb1⟩
  have hk1 := keep4 (b := w.heap.size + 1) (v0 := .int .i64 vK) (v1 := .int .u64 vN) (v2 := .string vS) (v3 := .int .i64 vO) ⟨by go_simp, by go_simp, by go_simp, by go_simp⟩ hb1
  obtain ⟨p0, p1, p2, p3⟩ := hk1
  have HB1 : Hid (Below w.heap.size w w1) := HB.out.trans (hb1.mono (by simp; omega))
  have hsz : w.heap.size + 1 < w1.heap.size := by have := hb1.size; simp at this; omega
  clear hb1 HB HK
  go_wp2_with fail
  go_region_held3 (fun w' => (w'.cell? ⟨w1.heap.size, 0, none⟩ = some (.int .i64 YK) ∧ w'.cell? ⟨w1.heap.size, 1, none⟩ = some (.int .u64 YN) ∧ w'.cell? ⟨w1.heap.size, 2, none⟩ = some (.string YS) ∧ w'.cell? ⟨w1.heap.size, 3, none⟩ = some (.int .i64 YO)) ∧
      w'.cell? ⟨w.heap.size + 1, 0, none⟩ = some (.int .i64 vK) ∧ w'.cell? ⟨w.heap.size + 1, 1, none⟩ = some (.int .u64 vN) ∧ w'.cell? ⟨w.heap.size + 1, 2, none⟩ = some (.string vS) ∧ w'.cell? ⟨w.heap.size + 1, 3, none⟩ = some (.int .i64 vO))
    (first
      | go_keep
      | exact keep8x (by assumption) hx3 (HZ.out _ (by omega)) (HZ.out _ (by omega))
      | exact keep8 (by assumption) hb2)
    (first
      | (go_at_call 33; refine (HN.out _).mono ?_; rintro e w2 ⟨rfl, hb2⟩)
      | (go_at_call 32; refine (HS.out _ (by have h9 := (HB1.out.alloc (Nat.le_of_lt (Nat.lt_of_succ_lt hsz)) _).trans ((below_undrew hb2).mono (by simp; omega)); exact h9)).mono ?_; rintro e w3 ⟨rfl, hsp, hx3⟩; have HSP : Hid _ := hsp; clear hsp))
  go_wp2
  go_ret
  exact ⟨rfl, HSP.out⟩

/-- What is there of a key: nothing, or the entry, and what stands ahead of it and behind. -/
theorem ofKey_split {K N : Int} {S : ByteArray} {O : Int} {es : List En} {f : En} (h : ofKey K N S O es = some f) : ∃ xo yo, es = xo ++ f :: yo := List.append_of_mem (List.mem_of_find?_eq_some h)

end Go.Proofs.YtjkedocppbcncaaDoor

/-
  Layer 9: whole numbers as keys, and a heap with one table that has some of them.
-/
namespace Go.Proofs.YtjkedocppbcncaaDoor
set_option maxRecDepth 100000
open Go.RowKit Flo

theorem nan_from {k : Int} (hk : k.natAbs ≤ 9007199254740992) : nanB (fromZ k) = false := by
  have := (from_parts (n := k) (by omega) (by omega)).1
  unfold nanB
  exact decide_eq_false (by omega)
theorem canon_from {k : Int} (hk : k.natAbs ≤ 9007199254740992) : canonZ (fromZ k) = fromZ k := by unfold canonZ; rw [nan_from hk]; rfl
theorem kok_from {k : Int} (hk : k.natAbs ≤ 9007199254740992) : kok 3 (fromZ k) = true := by rw [kok_3, nan_from hk]; rfl
/-- The bits of a whole number as a key. -/
def kn (k : Int) : Int := yN 3 (fromZ k)
theorem kn_is {k : Int} (hk : k.natAbs ≤ 9007199254740992) : kn k = if mag (fromZ k) = 0 then 0 else fromZ k := by
  unfold kn yN
  rw [if_pos (kok_from hk), kN_3 (nan_from hk)]
theorem kn_0 : kn 0 = 0 := by kernel_rfl
theorem y_from {k : Int} (hk : k.natAbs ≤ 9007199254740992) : yK 3 (fromZ k) = 3 ∧ yS 3 (fromZ k) ⟨#[]⟩ = ⟨#[]⟩ ∧ yO 3 (fromZ k) 0 = 0 := by
  unfold yK yS yO
  rw [if_pos (kok_from hk), if_pos (kok_from hk), if_pos (kok_from hk)]
  exact ⟨rfl, rfl, rfl⟩
theorem tz_null {a : Int} (h : MZ a = 0) : tz a = 0 := by
  unfold tz
  rw [h, Nat.zero_div]
  unfold sz
  split <;> rfl
theorem zero_whole : toB 0 = true ∧ toI 0 = 0 := ⟨by kernel_rfl, by kernel_rfl⟩
theorem num_iff {e : En} (he : keyOk e) (hu : U64 e.N) {k : Int} (hk : k.natAbs ≤ 9007199254740992) : numE e k ↔ (e.K = 3 ∧ e.N = kn k ∧ e.S = ⟨#[]⟩ ∧ e.O = 0) := by
  constructor
  · rintro ⟨k3, hB, hI⟩
    obtain ⟨h1, _, h3, h4, h5⟩ := he
    rw [k3] at h1 h3 h4 h5
    have hn : nanB e.N = false := by rw [kok_3] at h1; simpa using h1
    rw [kN_3 hn] at h3
    obtain ⟨t1, t2, _, _⟩ := toB_true hB
    refine ⟨k3, ?_, h4.symm, h5.symm⟩
    by_cases z : MZ e.N = 0
    · have hm : mag e.N = 0 := (MZ_0 hu).1 z
      rw [if_pos hm] at h3
      have k0 : k = 0 := by rw [← hI, t2]; exact tz_null z
      rw [← h3, k0, kn_0]
    · have hb := back_word hu t1 z
      rw [← t2, hI] at hb
      rw [kn_is hk, hb]
      exact h3.symm
  · rintro ⟨k3, hN, hS, hO⟩
    rw [kn_is hk] at hN
    obtain ⟨b1, b2⟩ := from_back hk
    by_cases z : mag (fromZ k) = 0
    · rw [if_pos z] at hN
      have hmz : MZ (fromZ k) = 0 := (MZ_0 (fromZ_u64 k)).2 z
      have k0 : k = 0 := by rw [← b2, (toB_true b1).2.1]; exact tz_null hmz
      exact ⟨k3, by rw [hN]; exact zero_whole.1, by rw [hN, k0]; exact zero_whole.2⟩
    · rw [if_neg z] at hN
      exact ⟨k3, by rw [hN]; exact b1, by rw [hN]; exact b2⟩

/-- A heap with one table: its whole numbers that are keys are those of has (a bound of 2 to the 53rd on them). -/
def NT (w : World) (hb B u : Nat) (has : List Int) (Z : Nat → Prop) : Prop :=
  ∃ used R x tb, used ≤ u ∧ Hv w hb 2000 used R [x] Z ∧ x.tb = some tb ∧ (∀ z : Int, z.natAbs ≤ 9007199254740992 → ((∃ e ∈ x.es, numE e z) ↔ z ∈ has)) ∧ ∀ k, Z k → B ≤ k
theorem NT.below {w w' : World} {hb B u : Nat} {has : List Int} {Z : Nat → Prop} (h : NT w hb B u has Z) (k : Below w.heap.size w w') : NT w' hb B u has Z := by
  obtain ⟨used, R, x, tb, h1, h2, h3, h4, h5⟩ := h
  exact ⟨used, R, x, tb, h1, h2.below k, h3, h4, h5⟩
theorem NT.wx {w w' : World} {hb B u : Nat} {has : List Int} {Z Y : Nat → Prop} (h : NT w hb B u has Z) (k : Wx Y w w') (hY : ∀ i, Z i → ¬ Y i) (h1 : ¬ Y 1) : NT w' hb B u has Z := by
  obtain ⟨used, R, x, tb, q1, q2, q3, q4, q5⟩ := h
  exact ⟨used, R, x, tb, q1, q2.wx k hY h1, q3, q4, q5⟩
/-- Whether a number is there, by the search. -/
theorem nt_of {x : Ob} {w : World} {tb : Nat} (hT : Tv w tb x.X x.es x.M) (hk : ∀ e ∈ x.es, keyOk e) {k : Int} (hb : k.natAbs ≤ 9007199254740992) :
    (ofKey 3 (kn k) ⟨#[]⟩ 0 x.es = none → ¬ ∃ e ∈ x.es, numE e k) ∧ ∀ f, ofKey 3 (kn k) ⟨#[]⟩ 0 x.es = some f → f ∈ x.es ∧ numE f k := by
  refine ⟨fun h => ?_, fun f h => ?_⟩
  · rintro ⟨e, he, hn⟩
    have := List.find?_eq_none.1 h e he
    exact this (decide_eq_true ((num_iff (hk e he) (hT.u64 e he) hb).1 hn))
  · have hm := List.mem_of_find?_eq_some h
    have hd0 := List.find?_some h
    have hd := of_decide_eq_true hd0
    exact ⟨hm, (num_iff (hk f hm) (hT.u64 f hm) hb).2 hd⟩

end Go.Proofs.YtjkedocppbcncaaDoor

/-
  Layer 9: what Set does to the whole numbers that are keys.
-/
namespace Go.Proofs.YtjkedocppbcncaaDoor
set_option maxRecDepth 100000
open Go.RowKit Flo

theorem numE_fun {e : En} {a b : Int} (h : numE e a) (k : numE e b) : a = b := h.2.2.symm.trans k.2.2
theorem Wx.low {X : Nat → Prop} {w w' : World} {B : Nat} (h : Wx X w w') (hX : ∀ k, X k → B ≤ k) (hB : B ≤ w.heap.size) : Below B w w' := h.below hX hB
theorem NT.le {w : World} {hb B u : Nat} {has : List Int} {Z : Nat → Prop} (h : NT w hb B u has Z) : B ≤ hb ∧ hb < w.heap.size := by
  obtain ⟨used, R, x, tb, h1, h2, h3, h4, h5⟩ := h
  exact ⟨h5 hb h2.zh, h2.lt hb h2.zh⟩

theorem nt_set {w : World} {hb B u : Nat} {has : List Int} {Z : Nat → Prop} (h : NT w hb B u has Z) (k : Int) (hk : k.natAbs ≤ 9007199254740992) (hu : u < 2000) :
    Calls Tryd.prog 12 #[.pointer (some ⟨hb, 0, none⟩), .int .i64 1, .agg #[.int .i64 3, .int .u64 (fromZ k), .string ⟨#[]⟩, .int .i64 0], .agg #[.int .i64 3, .int .u64 4607182418800017408, .string ⟨#[]⟩, .int .i64 0]] w fun e w' => e = .returned (.int .i64 0) ∧ ∃ Z', NT w' hb B (u + 1) (has ++ [k]) Z' ∧ Wx Z w w' ∧ ∀ j, Z' j → Z j ∨ w.heap.size ≤ j := by
  have hle := h.le
  obtain ⟨used, R, x, tb, h1, h2, h3, h4, h5⟩ := h
  obtain ⟨y1, y2, y3⟩ := y_from hk
  have hv1 : nN 3 4607182418800017408 = 4607182418800017408 := by kernel_rfl
  have two := h2.two
  refine (Set_of h2 (i := 0) (x := x) (tb := tb) rfl h3 1 rfl 3 (fromZ k) ⟨#[]⟩ 0 3 4607182418800017408 ⟨#[]⟩ 0 (fromZ_u64 k) ⟨by decide, by decide⟩ (kok_from hk) 0 (fun w' => ∃ Z', NT w' hb B (u + 1) (has ++ [k]) Z' ∧ Wx Z w w' ∧ ∀ j, Z' j → Z j ∨ w.heap.size ≤ j) (fun w1 hb1 => ?_)).mono ?_
  · rw [y1, y2, y3, hv1, show yN 3 (fromZ k) = kn k from rfl]
    have hv := h2.below hb1
    have h0 := (hv.ob 0 x rfl).tab tb h3
    obtain ⟨n1, n2⟩ := nt_of h0.2.1 h0.2.2 hk
    have hs := hb1.size
    have hkey : keyP 3 (kn k) ⟨#[]⟩ 0 := by
      have := keyP_y (K := 3) (N := fromZ k) ⟨#[]⟩ 0 (kok_from hk)
      rw [y1, y2, y3] at this
      exact this
    have hkn : U64 (kn k) := yN_u64 (fromZ_u64 k)
    cases ho : ofKey 3 (kn k) ⟨#[]⟩ 0 x.es with
    | none =>
      refine (set_add hv (i := 0) (x := x) (tb := tb) rfl h3 3 (kn k) ⟨#[]⟩ 0 3 4607182418800017408 ⟨#[]⟩ 0 hkey hkn (by decide) (by decide) ho (by omega)).mono ?_
      rintro e w' ⟨rfl, b, X', c1, c2⟩
      refine ⟨rfl, ⟨Zn Z w1.heap.size w'.heap.size, ⟨used + 1, R, { x with es := x.es ++ [⟨b, 3, kn k, ⟨#[]⟩, 0, hN 3 (kn k) ⟨#[]⟩ 0, 3, 4607182418800017408, ⟨#[]⟩, 0⟩], X := X' }, tb, by omega, c1, h3, fun z hz => ?_, fun j hj => ?_⟩, (Wx.of_below Z hb1).trans c2 (fun j hj => Or.inl hj), fun j hj => (by
        rcases hj with c | c
        · exact Or.inl c
        · exact Or.inr (by omega))⟩, c2⟩
      · have hnew : numE ⟨b, 3, kn k, ⟨#[]⟩, 0, hN 3 (kn k) ⟨#[]⟩ 0, 3, 4607182418800017408, ⟨#[]⟩, 0⟩ k := (num_iff (e := ⟨b, 3, kn k, ⟨#[]⟩, 0, hN 3 (kn k) ⟨#[]⟩ 0, 3, 4607182418800017408, ⟨#[]⟩, 0⟩) hkey hkn hk).2 ⟨rfl, rfl, rfl, rfl⟩
        rw [List.mem_append, List.mem_singleton, ← h4 z hz]
        constructor
        · rintro ⟨e, he, hn⟩
          have he2 : e ∈ x.es ++ [⟨b, 3, kn k, ⟨#[]⟩, 0, hN 3 (kn k) ⟨#[]⟩ 0, 3, 4607182418800017408, ⟨#[]⟩, 0⟩] := he
          rcases List.mem_append.1 he2 with c | c
          · exact Or.inl ⟨e, c, hn⟩
          · rw [List.mem_singleton.1 c] at hn
            exact Or.inr (numE_fun hn hnew)
        · rintro (⟨e, he, hn⟩ | c)
          · exact ⟨e, List.mem_append_left _ he, hn⟩
          · exact ⟨_, List.mem_append_right _ (List.mem_singleton.2 rfl), by rw [c]; exact hnew⟩
      · rcases hj with c | c
        · exact h5 j c
        · omega
    | some f =>
      refine (set_over hv (i := 0) (x := x) (tb := tb) rfl h3 3 (kn k) ⟨#[]⟩ 0 3 4607182418800017408 ⟨#[]⟩ 0 (by decide) (by decide) ho).mono ?_
      rintro e w' ⟨rfl, c1, c2⟩
      have hup := upV_uk f.b ⟨3, 4607182418800017408, ⟨#[]⟩, 0⟩
      refine ⟨rfl, ⟨Zn Z w1.heap.size w'.heap.size, ⟨used, R, { x with es := x.es.map (upV f.b ⟨3, 4607182418800017408, ⟨#[]⟩, 0⟩) }, tb, by omega, c1, h3, fun z hz => ?_, fun j hj => ?_⟩, (Wx.of_below Z hb1).trans c2 (fun j hj => Or.inl hj), fun j hj => (by
        rcases hj with c | c
        · exact Or.inl c
        · exact Or.inr (by omega))⟩, c2⟩
      · have hf := n2 f ho
        have hkin : k ∈ has := (h4 k hk).1 ⟨f, hf.1, hf.2⟩
        rw [List.mem_append, List.mem_singleton, ← h4 z hz]
        have hnu : ∀ e, numE (upV f.b ⟨3, 4607182418800017408, ⟨#[]⟩, 0⟩ e) z ↔ numE e z := fun e => by unfold numE; rw [hup.K, hup.N]
        constructor
        · rintro ⟨e, he, hn⟩
          obtain ⟨y, hy, rfl⟩ := List.mem_map.1 he
          exact Or.inl ⟨y, hy, (hnu y).1 hn⟩
        · rintro (⟨e, he, hn⟩ | c)
          · exact ⟨_, List.mem_map_of_mem he, (hnu e).2 hn⟩
          · obtain ⟨e, he, hn⟩ := (h4 k hk).2 hkin
            exact ⟨_, List.mem_map_of_mem he, (hnu e).2 (by rw [c]; exact hn)⟩
      · rcases hj with c | c
        · exact h5 j c
        · omega
  · rintro e w' ⟨rfl, p⟩
    exact ⟨rfl, p⟩

theorem nt_nil {w : World} {hb B u : Nat} {has : List Int} {Z : Nat → Prop} (h : NT w hb B u has Z) (k : Int) (hk : k.natAbs ≤ 9007199254740992) :
    Calls Tryd.prog 12 #[.pointer (some ⟨hb, 0, none⟩), .int .i64 1, .agg #[.int .i64 3, .int .u64 (fromZ k), .string ⟨#[]⟩, .int .i64 0], .agg #[.int .i64 0, .int .u64 0, .string ⟨#[]⟩, .int .i64 0]] w fun e w' => e = .returned (.int .i64 0) ∧ ∃ Z', NT w' hb B u (has.filter fun z => decide (z ≠ k)) Z' ∧ Wx Z w w' ∧ ∀ j, Z' j → Z j ∨ w.heap.size ≤ j := by
  have hle := h.le
  obtain ⟨used, R, x, tb, h1, h2, h3, h4, h5⟩ := h
  obtain ⟨y1, y2, y3⟩ := y_from hk
  have two := h2.two
  refine (Set_of h2 (i := 0) (x := x) (tb := tb) rfl h3 1 rfl 3 (fromZ k) ⟨#[]⟩ 0 0 0 ⟨#[]⟩ 0 (fromZ_u64 k) ⟨by decide, by decide⟩ (kok_from hk) 0 (fun w' => ∃ Z', NT w' hb B u (has.filter fun z => decide (z ≠ k)) Z' ∧ Wx Z w w' ∧ ∀ j, Z' j → Z j ∨ w.heap.size ≤ j) (fun w1 hb1 => ?_)).mono ?_
  · rw [y1, y2, y3, show yN 3 (fromZ k) = kn k from rfl]
    have hv := h2.below hb1
    have h0 := (hv.ob 0 x rfl).tab tb h3
    obtain ⟨n1, n2⟩ := nt_of h0.2.1 h0.2.2 hk
    have hs := hb1.size
    cases ho : ofKey 3 (kn k) ⟨#[]⟩ 0 x.es with
    | none =>
      refine (set_nil hv (i := 0) (x := x) (tb := tb) rfl h3 3 (kn k) ⟨#[]⟩ 0 0 ⟨#[]⟩ 0 (by decide) ho).mono ?_
      rintro e w' ⟨rfl, c1⟩
      refine ⟨rfl, ⟨Z, ⟨used, R, x, tb, h1, hv.below c1, h3, fun z hz => ?_, h5⟩, (Wx.of_below Z hb1).trans (Wx.of_below Z c1) (fun j hj => Or.inl hj), fun j hj => Or.inl hj⟩, Wx.of_below Z c1⟩
      rw [List.mem_filter, ← h4 z hz]
      constructor
      · intro q
        refine ⟨q, decide_eq_true fun c => ?_⟩
        rw [c] at q
        exact n1 ho q
      · exact fun q => q.1
    | some f =>
      obtain ⟨xo, yo, hes⟩ := ofKey_split ho
      refine (set_drop hv (i := 0) (x := x) (tb := tb) rfl h3 3 (kn k) ⟨#[]⟩ 0 0 ⟨#[]⟩ 0 (by decide) ho xo yo hes).mono ?_
      rintro e w' ⟨rfl, X', c1, c2⟩
      have hf := n2 f ho
      refine ⟨rfl, ⟨Zn Z w1.heap.size w'.heap.size, ⟨used - 1, R, { x with es := xo ++ yo, X := X' }, tb, by omega, c1, h3, fun z hz => ?_, fun j hj => ?_⟩, (Wx.of_below Z hb1).trans c2 (fun j hj => Or.inl hj), fun j hj => (by
        rcases hj with c | c
        · exact Or.inl c
        · exact Or.inr (by omega))⟩, c2⟩
      · rw [List.mem_filter, ← h4 z hz]
        have hap : ∀ g ∈ xo ++ yo, ¬ (f.K = 3 ∧ g.K = 3 ∧ f.N = g.N) := by
          have q1 := h0.2.1
          have q2 := h0.2.2
          rw [hes] at q1 q2
          exact q1.apart_num q2
        have hsub : ∀ g ∈ xo ++ yo, g ∈ x.es := fun g hg => by
          rw [hes]
          rcases List.mem_append.1 hg with c | c
          · exact List.mem_append_left _ c
          · exact List.mem_append_right _ (List.mem_cons_of_mem _ c)
        constructor
        · rintro ⟨e, he, hn⟩
          have he2 : e ∈ xo ++ yo := he
          refine ⟨⟨e, hsub e he2, hn⟩, decide_eq_true fun c => ?_⟩
          rw [c] at hn
          have a1 := (num_iff (h0.2.2 e (hsub e he2)) (h0.2.1.u64 e (hsub e he2)) hk).1 hn
          have a2 := (num_iff (h0.2.2 f hf.1) (h0.2.1.u64 f hf.1) hk).1 hf.2
          exact hap e he2 ⟨a2.1, a1.1, a2.2.1.trans a1.2.1.symm⟩
        · rintro ⟨⟨e, he, hn⟩, hd⟩
          have hd := of_decide_eq_true hd
          rw [hes] at he
          refine ⟨e, ?_, hn⟩
          rcases List.mem_append.1 he with c | c
          · exact List.mem_append_left _ c
          · rcases List.mem_cons.1 c with d | d
            · exfalso
              rw [d] at hn
              exact hd (numE_fun hn hf.2)
            · exact List.mem_append_right _ d
      · rcases hj with c | c
        · exact h5 j c
        · omega
  · rintro e w' ⟨rfl, p⟩
    exact ⟨rfl, p⟩

/-- The size is how far the numbers go. -/
theorem nt_size {w : World} {hb B u : Nat} {has : List Int} {Z : Nat → Prop} (h : NT w hb B u has Z) (n : Nat) (hn : ∀ p : Nat, p < n → ((p : Int) + 1) ∈ has) (hn2 : ((n : Int) + 1) ∉ has) (hnb : n ≤ 1000) :
    Calls Tryd.prog 15 #[.pointer (some ⟨hb, 0, none⟩), .int .i64 1] w fun e w' => e = .returned (.int .i64 (n : Int)) ∧ w' = w := by
  obtain ⟨used, R, x, tb, h1, h2, h3, h4, h5⟩ := h
  refine (size_hv h2 1).mono ?_
  rintro e w' ⟨rfl, s, rfl, hm⟩
  have e1 : tabOf [x] 1 = some x := tabOf_of (os := [x]) (i := 0) (tb := tb) rfl h3
  rw [e1] at hm
  obtain ⟨t, ht, hc⟩ := hm
  rw [h3] at ht
  injection ht with ht
  subst ht
  obtain ⟨s2, q1, q2, q3⟩ := ((h2.ob 0 x rfl).tab tb h3).2.1.size2
  have hss : s = s2 := by
    have := hc.symm.trans q1
    injection this with this
    injection this with _ this
    omega
  subst hss
  have hsn : s = n := by
    rcases Nat.lt_trichotomy s n with c | c | c
    · exfalso
      obtain ⟨e, he, hne⟩ := (h4 ((s : Int) + 1) (by omega)).2 (hn s c)
      exact q3 e he hne
    · exact c
    · exfalso
      exact hn2 ((h4 ((n : Int) + 1) (by omega)).1 (q2 n c))
  rw [hsn]
  exact ⟨rfl, rfl⟩

end Go.Proofs.YtjkedocppbcncaaDoor
