/-
  HpTo, HpSet3, HpMeta, HpLook, HpNum, HpSet4
-/
import Derived.Test.YthmocdabakkfhaaGreatDoorZ22

/-
  Layer 9: a key's value becomes another, on tables as a whole.
-/
namespace Go.Proofs.YthmocdabakkfhaaGreatDoor
set_option maxRecDepth 100000
open Go.RowKit Flo

/-- Entries with another value alone. -/
structure Uk (u : En → En) : Prop where
  b : ∀ e, (u e).b = e.b
  K : ∀ e, (u e).K = e.K
  N : ∀ e, (u e).N = e.N
  S : ∀ e, (u e).S = e.S
  O : ∀ e, (u e).O = e.O
  H : ∀ e, (u e).H = e.H
theorem Uk.hd {u : En → En} (h : Uk u) : ∀ l : List En, hd (l.map u) = hd l
  | [] => rfl
  | e :: l => by rw [List.map_cons, Go.Proofs.YthmocdabakkfhaaGreatDoor.hd, Go.Proofs.YthmocdabakkfhaaGreatDoor.hd, h.b]
theorem Uk.lk {u : En → En} (h : Uk u) {w : World} {o : Nat} : ∀ {l : List En}, Lk w o l → Lk w o (l.map u)
  | [], _ => trivial
  | e :: l, k => ⟨by rw [h.b, h.hd]; exact k.1, h.lk k.2⟩
theorem Uk.bs {u : En → En} (h : Uk u) (l : List En) : (l.map u).map En.b = l.map En.b := by rw [List.map_map]; exact List.map_congr_left (fun e _ => h.b e)
theorem Uk.hasP {u : En → En} (h : Uk u) (m : Nat) (es : List En) (p : Nat) : hasP m es p ↔ Go.Proofs.YthmocdabakkfhaaGreatDoor.hasP m (es.map u) p := by
  unfold Go.Proofs.YthmocdabakkfhaaGreatDoor.hasP
  constructor
  · rintro ⟨e, he, h1, h2⟩
    exact ⟨u e, List.mem_map_of_mem he, by rw [h.K, h.N]; exact h1, by rw [h.K, h.N]; exact h2⟩
  · rintro ⟨f, hf, h1, h2⟩
    obtain ⟨e, he, rfl⟩ := List.mem_map.1 hf
    rw [h.K, h.N] at h1 h2
    exact ⟨e, he, h1, h2⟩
theorem Uk.or {u : En → En} (h : Uk u) {w : World} {tb : Nat} {es : List En} (k : Or w tb es) : Or w tb (es.map u) :=
  ⟨by rw [List.length_map]; exact k.keys, by rw [h.hd]; exact k.first, by rw [← List.map_reverse, h.hd]; exact k.last, h.lk k.behind, by rw [← List.map_reverse]; exact h.lk k.ahead, by rw [h.bs]; exact k.once, fun f hf => by
    obtain ⟨e, he, rfl⟩ := List.mem_map.1 hf
    rw [h.b]; exact k.apart e he⟩
/-- The chains of entries that have other values. -/
theorem Uk.bk {u : En → En} (h : Uk u) {w w' : World} {g n : Nat} {cs : Nat → List En} {es : List En} (k : Bk w g n cs es) (hw : w.heap.size ≤ w'.heap.size) (hg : ∀ j, j < n → w'.cell? ⟨g, j, none⟩ = w.cell? ⟨g, j, none⟩) (h9 : ∀ e ∈ es, w'.cell? ⟨e.b, 9, none⟩ = w.cell? ⟨e.b, 9, none⟩)
    (hen : ∀ e ∈ es, EnC w' (u e)) : Bk w' g n (fun j => (cs j).map u) (es.map u) := by
  have hlk : ∀ l : List En, (∀ e ∈ l, e ∈ es) → Lk w 9 l → Lk w' 9 l := by
    intro l
    induction l with
    | nil => intro _ _; trivial
    | cons e l ih => intro hm hl; exact ⟨(h9 e (hm e List.mem_cons_self)).trans hl.1, ih (fun x hx => hm x (List.mem_cons_of_mem _ hx)) hl.2⟩
  refine ⟨k.pos, k.few, Nat.lt_of_lt_of_le k.lt hw, fun j hj => by rw [h.hd, hg j hj]; exact k.head j hj, fun j hj => h.lk (hlk _ (fun e he => ((k.mem j hj e).1 he).1) (k.chain j hj)), fun j hj f => ?_, fun f hf => ?_, fun f hf => ?_, fun f hf f' hf' a b c d => ?_, fun j hj => ?_, fun f hf f' hf' a => ?_, fun f hf => ?_⟩
  · constructor
    · intro hf
      obtain ⟨e, he, rfl⟩ := List.mem_map.1 hf
      obtain ⟨h1, h2⟩ := (k.mem j hj e).1 he
      exact ⟨List.mem_map_of_mem h1, by rw [h.H]; exact h2⟩
    · rintro ⟨hf, hb⟩
      obtain ⟨e, he, rfl⟩ := List.mem_map.1 hf
      rw [h.H] at hb
      exact List.mem_map_of_mem ((k.mem j hj e).2 ⟨he, hb⟩)
  · obtain ⟨e, he, rfl⟩ := List.mem_map.1 hf
    exact ⟨hen e he, by rw [h.b]; exact Nat.lt_of_lt_of_le (k.lies e he).2 hw⟩
  · obtain ⟨e, he, rfl⟩ := List.mem_map.1 hf
    rw [h.H, h.K, h.N, h.S, h.O]; exact k.hash e he
  · obtain ⟨e, he, rfl⟩ := List.mem_map.1 hf
    obtain ⟨e', he', rfl⟩ := List.mem_map.1 hf'
    rw [h.K, h.K] at a; rw [h.N, h.N] at b; rw [h.S, h.S] at c; rw [h.O, h.O] at d
    rw [k.own e he e' he' a b c d]
  · have hnd := k.once j hj
    have hsub : ∀ e ∈ cs j, e ∈ es := fun e he => ((k.mem j hj e).1 he).1
    refine List.Pairwise.map u ?_ (List.Pairwise.imp_of_mem (S := fun a b => a.b ≠ b.b) (fun {a b} ha hb q c => q (k.block a (hsub a ha) b (hsub b hb) c)) hnd)
    intro a b q c
    exact q (by rw [← h.b a, ← h.b b, c])
  · obtain ⟨e, he, rfl⟩ := List.mem_map.1 hf
    obtain ⟨e', he', rfl⟩ := List.mem_map.1 hf'
    rw [h.b, h.b] at a
    rw [k.block e he e' he' a]
  · obtain ⟨e, he, rfl⟩ := List.mem_map.1 hf
    rw [h.b]; exact k.apart e he

/-- The entry in the block b with the value v, all others as they are. -/
def upV (b : Nat) (v : V4) (e : En) : En := if e.b = b then { e with vK := v.K, vN := v.N, vS := v.S, vO := v.O } else e
theorem upV_uk (b : Nat) (v : V4) : Uk (upV b v) := by
  refine ⟨fun e => ?_, fun e => ?_, fun e => ?_, fun e => ?_, fun e => ?_, fun e => ?_⟩ <;> (unfold upV; split <;> rfl)
def setV (w : World) (b : Nat) (v : V4) : World := (((w.setCell ⟨b, 4, none⟩ (.int .i64 v.K)).setCell ⟨b, 5, none⟩ (.int .u64 v.N)).setCell ⟨b, 6, none⟩ (.string v.S)).setCell ⟨b, 7, none⟩ (.int .i64 v.O)
theorem setV_wr (w : World) (b : Nat) (v : V4) : Wr [(b, 4), (b, 5), (b, 6), (b, 7)] w (setV w b v) :=
  ((((Wr.set w b 4 _).trans (Wr.set _ b 5 _)).trans (Wr.set _ b 6 _)).trans (Wr.set _ b 7 _)).more (fun a ha => by simpa using ha)
theorem setV_en {w : World} {e : En} (h : EnC w e) (v : V4) : EnC (setV w e.b v) (upV e.b v e) := by
  have hw := setV_wr w e.b v
  obtain ⟨h0, h1, h2, h3, h4, h5, h6, h7, h8⟩ := h
  have hn : ∀ o, o < 4 ∨ 7 < o → (e.b, o) ∉ [(e.b, 4), (e.b, 5), (e.b, 6), (e.b, 7)] := fun o ho hm => by
    simp only [List.mem_cons, Prod.mk.injEq, List.not_mem_nil, or_false] at hm; omega
  unfold upV
  rw [if_pos rfl]
  refine ⟨hw.cell (hn 0 (by omega)) h0, hw.cell (hn 1 (by omega)) h1, hw.cell (hn 2 (by omega)) h2, hw.cell (hn 3 (by omega)) h3, ?_, ?_, ?_, ?_, hw.cell (hn 8 (by omega)) h8⟩
  · unfold setV
    rw [World.cell?_setCell_other _ _ _ _ (by simp), World.cell?_setCell_other _ _ _ _ (by simp), World.cell?_setCell_other _ _ _ _ (by simp)]
    exact World.cell?_setCell_same _ _ _ h4
  · unfold setV
    rw [World.cell?_setCell_other _ _ _ _ (by simp), World.cell?_setCell_other _ _ _ _ (by simp)]
    exact World.cell?_setCell_same _ _ _ (by rw [World.cell?_setCell_other _ _ _ _ (by simp)]; exact h5)
  · unfold setV
    rw [World.cell?_setCell_other _ _ _ _ (by simp)]
    exact World.cell?_setCell_same _ _ _ (by rw [World.cell?_setCell_other _ _ _ _ (by simp), World.cell?_setCell_other _ _ _ _ (by simp)]; exact h6)
  · unfold setV
    exact World.cell?_setCell_same _ _ _ (by rw [World.cell?_setCell_other _ _ _ _ (by simp), World.cell?_setCell_other _ _ _ _ (by simp), World.cell?_setCell_other _ _ _ _ (by simp)]; exact h7)
/-- A key that is there has another value. -/
theorem Tv.over {w : World} {tb : Nat} {X : Nat → Prop} {es : List En} {M : V4} {f : En} (h : Tv w tb X es M) (hf : f ∈ es) (v : V4) : Tv (setV w f.b v) tb X (es.map (upV f.b v)) M ∧ Wx X w (setV w f.b v) := by
  have hu := upV_uk f.b v
  have hw := setV_wr w f.b v
  have hA : ∀ k o, (k, o) ∈ [(f.b, 4), (f.b, 5), (f.b, 6), (f.b, 7)] → k = f.b ∧ 4 ≤ o ∧ o ≤ 7 := fun k o hm => by
    simp only [List.mem_cons, Prod.mk.injEq, List.not_mem_nil, or_false] at hm; omega
  have hnk : ∀ k o, k ≠ f.b → (k, o) ∉ [(f.b, 4), (f.b, 5), (f.b, 6), (f.b, 7)] := fun k o hk hm => hk (hA k o hm).1
  have hno : ∀ k o, 8 ≤ o → (k, o) ∉ [(f.b, 4), (f.b, 5), (f.b, 6), (f.b, 7)] := fun k o ho hm => by have := (hA k o hm).2; omega
  have htb : tb ≠ f.b := fun c => h.ord.apart f hf c.symm
  have hs : w.heap.size ≤ (setV w f.b v).heap.size := hw.size
  have hwx : Wx X w (setV w f.b v) := Wx.of hw (fun k o hm => Or.inl ((hA k o hm).1 ▸ (h.ent f hf).1))
  have hen : ∀ e ∈ es, EnC w e → EnC (setV w f.b v) (upV f.b v e) := fun e he k => by
    by_cases c : e.b = f.b
    · rw [← c]; exact setV_en k v
    · unfold upV
      rw [if_neg c]
      exact k.off hw.off (fun o _ => hnk _ _ c)
  refine ⟨⟨h.own, fun k hk => Nat.lt_of_lt_of_le (h.lt k hk) hs, h.no1, fun k o hk => (hw.2.1 k o (h.lt k hk)).trans (h.free k o hk), fun j hj => hw.cell (hnk 1 j (fun c => h.no1 (c ▸ (h.ent f hf).1))) (h.db j hj), h.mt.wr hw (fun i _ => hnk _ _ htb),
    hu.or (h.ord.wr hw (hnk _ _ htb) (hnk _ _ htb) (hnk _ _ htb) (fun e he => ⟨hno _ _ (by omega), hno _ _ (by omega)⟩)), by rw [List.length_map]; exact h.few, fun e he => ?_, fun e he => ?_, ?_⟩, hwx⟩
  · obtain ⟨x, hx, rfl⟩ := List.mem_map.1 he
    rw [hu.N]; exact h.u64 x hx
  · obtain ⟨x, hx, rfl⟩ := List.mem_map.1 he
    rw [hu.b]; exact ⟨(h.ent x hx).1, hw.blk (h.ent x hx).2⟩
  · rcases h.bod with ⟨e0, _⟩ | ⟨g, n, c, m, cs, W, s, t⟩
    · rw [e0] at hf; cases hf
    · have hgf : g ≠ f.b := fun q => t.kb.apart f hf q.symm
      have hcell : ∀ k o u, w.cell? ⟨k, o, none⟩ = some u → (k, o) ∉ [(f.b, 4), (f.b, 5), (f.b, 6), (f.b, 7)] → (setV w f.b v).cell? ⟨k, o, none⟩ = w.cell? ⟨k, o, none⟩ := fun k o u hc hn => (hw.cell hn hc).trans hc.symm
      refine Or.inr ⟨g, n, c, m, _, W, s, hu.bk t.kb hs (fun j hj => hcell g j _ (t.kb.head j hj) (hnk _ _ hgf)) (fun e he => ?_) (fun e he => hen e he (t.kb.lies e he).1), t.kc.wr hw (hnk _ _ htb) (hnk _ _ htb) (fun i => hnk _ _ (fun q => t.ec f hf q.symm)), t.sz.same (fun p _ => hu.hasP m es p), ⟨hw.cell (hnk _ _ htb) t.row.1, fun j => (hw.2.1 g j t.kb.lt).trans (t.row.2 j)⟩,
        by rw [List.length_map]; exact t.full, t.words, t.n4, t.nfew, t.xg, t.xc, t.gt, t.gc, fun e he => ?_⟩
      · have hjf := bk_lt e.H t.kb.pos
        obtain ⟨q, hq⟩ := lkSome (t.kb.chain _ hjf) e ((t.kb.mem _ hjf e).2 ⟨he, rfl⟩)
        exact hcell e.b 9 _ hq (hno _ _ (by omega))
      · obtain ⟨x, hx, rfl⟩ := List.mem_map.1 he
        rw [hu.b]; exact t.ec x hx

end Go.Proofs.YthmocdabakkfhaaGreatDoor

/-
  Layer 9: set where the key is there.
-/
namespace Go.Proofs.YthmocdabakkfhaaGreatDoor
set_option maxRecDepth 100000
open Go.RowKit Flo

/-- The heap behind a key that has another value. -/
theorem Hv.overw {w : World} {hb lim used i tb : Nat} {R : Value} {os : List Ob} {Z : Nat → Prop} {x : Ob} {f : En} (h : Hv w hb lim used R os Z) (hi : os[i]? = some x) (ht : x.tb = some tb) (hf : f ∈ x.es) (v : V4) :
    Hv (setV w f.b v) hb lim used R (os.set i { x with es := x.es.map (upV f.b v) }) (Zn Z w.heap.size (setV w f.b v).heap.size) ∧ Wx Z w (setV w f.b v) := by
  have h0 := (h.ob i x hi).tab tb ht
  obtain ⟨k1, k2⟩ := h0.2.1.over hf v
  refine h.put0 (o' := { x with es := x.es.map (upV f.b v) }) hi k2 (fun j hj => Or.inl hj) rfl ⟨fun t e1 => ?_, fun e1 => ?_⟩ (fun j hj => Or.inl hj) (fun j hj => k1.lt j hj) rfl (h.mt i x hi) (by simp only [Ob.wt, List.length_map])
  · have e2 : x.tb = some t := e1
    rw [ht] at e2
    injection e2 with e2
    subst e2
    refine ⟨h0.1, k1, fun e he => ?_⟩
    obtain ⟨y, hy, rfl⟩ := List.mem_map.1 he
    have hu := upV_uk f.b v
    have := h0.2.2 y hy
    unfold keyOk at this ⊢
    rw [hu.K, hu.N, hu.S, hu.O]
    exact this
  · have e2 : x.tb = none := e1
    rw [ht] at e2; cases e2

theorem key_num {e f : En} (he : keyOk e) (hf : keyOk f) (h1 : e.K = 3) (h2 : f.K = 3) : e.S = f.S ∧ e.O = f.O := by
  obtain ⟨_, _, _, a, b⟩ := he
  obtain ⟨_, _, _, c, d⟩ := hf
  rw [h1] at a b
  rw [h2] at c d
  exact ⟨a.symm.trans c, b.symm.trans d⟩
/-- The heap behind a key that goes. -/
theorem Hv.gone {w w5 : World} {hb lim used i tb : Nat} {R : Value} {os : List Ob} {Z : Nat → Prop} {x : Ob} {xo yo : List En} {f : En} {X' : Nat → Prop} (h : Hv w hb lim used R os Z) (hi : os[i]? = some x) (ht : x.tb = some tb) (hes : x.es = xo ++ f :: yo)
    (hT : Tv w5 tb X' (xo ++ yo) x.M) (hW : Wx x.X w w5) (hX' : ∀ k, X' k → x.X k ∨ w.heap.size ≤ k) :
    Hv (w5.setCell ⟨hb, 1, none⟩ (.int .i64 ((used - 1 : Nat) : Int))) hb lim (used - 1) R (os.set i { x with es := xo ++ yo, X := X' }) (Zn Z w.heap.size (w5.setCell ⟨hb, 1, none⟩ (.int .i64 ((used - 1 : Nat) : Int))).heap.size) ∧ Wx Z w (w5.setCell ⟨hb, 1, none⟩ (.int .i64 ((used - 1 : Nat) : Int))) := by
  have h0 := (h.ob i x hi).tab tb ht
  have hge := sum_ge os i x hi
  have hsum := h.sum
  have hwt : x.wt = 1 + x.es.length + x.sl.length := rfl
  have hlen : x.es.length = xo.length + yo.length + 1 := by rw [hes]; simp; omega
  refine h.put (o' := { x with es := xo ++ yo, X := X' }) hi hW (fun j hj => Or.inl hj) rfl ⟨fun t e1 => ?_, fun e1 => ?_⟩ hX' (fun j hj => hT.lt j hj) rfl (h.mt i x hi) ?_ (by have := h.hu; omega)
  · have e2 : x.tb = some t := e1
    rw [ht] at e2
    injection e2 with e2
    subst e2
    refine ⟨h0.1, hT, fun e he => h0.2.2 e ?_⟩
    have he2 : e ∈ xo ++ yo := he
    rw [hes]
    rcases List.mem_append.1 he2 with c | c
    · exact List.mem_append_left _ c
    · exact List.mem_append_right _ (List.mem_cons_of_mem _ c)
  · have e2 : x.tb = none := e1
    rw [ht] at e2; cases e2
  · have : ({ x with es := xo ++ yo, X := X' } : Ob).wt = 1 + (xo.length + yo.length) + x.sl.length := by simp only [Ob.wt, List.length_append]
    omega

/-- What drop needs to know of numbers. -/
theorem Tv.apart_num {w : World} {tb : Nat} {X : Nat → Prop} {xo yo : List En} {f : En} {M : V4} (h : Tv w tb X (xo ++ f :: yo) M) (hk : ∀ e ∈ xo ++ f :: yo, keyOk e) : ∀ g ∈ xo ++ yo, ¬ (f.K = 3 ∧ g.K = 3 ∧ f.N = g.N) := by
  rintro g hg ⟨a, b, c⟩
  have hg2 : g ∈ xo ++ f :: yo := by
    rcases List.mem_append.1 hg with d | d
    · exact List.mem_append_left _ d
    · exact List.mem_append_right _ (List.mem_cons_of_mem _ d)
  obtain ⟨hs, ho⟩ := key_num (hk f (by simp)) (hk g hg2) a b
  rcases h.bod with ⟨e0, _⟩ | ⟨gg, n, cc, m, cs, W, s, t⟩
  · simp at e0
  · have e := t.kb.own f (by simp) g hg2 (a.trans b.symm) c hs ho
    have hnd : (xo ++ f :: yo).Nodup := List.Pairwise.of_map En.b (fun a b q k => q (by rw [k])) h.ord.once
    have hnd2 := List.nodup_append.1 hnd
    rcases List.mem_append.1 hg with d | d
    · exact hnd2.2.2 g d f (by simp) e.symm
    · exact (List.nodup_cons.1 hnd2.2.1).1 (e ▸ d)

/-- What becomes of a heap by a value under a key that is there. -/
def Over (w : World) (hb lim used i : Nat) (R : Value) (os : List Ob) (Z : Nat → Prop) (x : Ob) (f : En) (v : V4) (w' : World) : Prop :=
  Hv w' hb lim used R (os.set i { x with es := x.es.map (upV f.b v) }) (Zn Z w.heap.size w'.heap.size) ∧ Wx Z w w'
def Gone (w : World) (hb lim used i : Nat) (R : Value) (os : List Ob) (Z : Nat → Prop) (x : Ob) (xo yo : List En) (w' : World) : Prop :=
  ∃ X', Hv w' hb lim (used - 1) R (os.set i { x with es := xo ++ yo, X := X' }) (Zn Z w.heap.size w'.heap.size) ∧ Wx Z w w'
theorem Zn.more {w : World} {hb lim used : Nat} {R : Value} {os : List Ob} {Z : Nat → Prop} {a b c : Nat} (h : Hv w hb lim used R os (Zn Z b c)) (hZ : ∀ k, Z k → k < w.heap.size) (hab : a ≤ b) (ha : 1 < a) (hc : c ≤ w.heap.size) (h1 : ¬ Z 1) : Hv w hb lim used R os (Zn Z a c) :=
  ⟨h.c0, h.c1, h.c2, h.hfree, h.row, h.hl, h.hu, h.sum, h.ob, h.mt, fun k hk => by
      rcases hk with c | c
      · exact hZ k c
      · omega,
    fun c => by
      rcases c with c | c
      · exact h1 c
      · omega,
    (by
      rcases h.zh with c | c
      · exact Or.inl c
      · exact Or.inr ⟨by omega, c.2⟩), fun g hg => ⟨by
      rcases (h.zr g hg).1 with c | c
      · exact Or.inl c
      · exact Or.inr ⟨by omega, c.2⟩, (h.zr g hg).2⟩,
    fun j p hp k hk => ⟨by
      rcases (h.zx j p hp k hk).1 with c | c
      · exact Or.inl c
      · exact Or.inr ⟨by omega, c.2⟩, (h.zx j p hp k hk).2⟩, h.xx, h.db⟩

set_option maxHeartbeats 4000000 in
theorem set_over {w : World} {hb lim used i tb : Nat} {R : Value} {os : List Ob} {Z : Nat → Prop} {x : Ob} {f : En} (h : Hv w hb lim used R os Z) (hi : os[i]? = some x) (ht : x.tb = some tb) (K N : Int) (S : ByteArray) (O vK vN : Int) (vS : ByteArray) (vO : Int) (hS : S.size ≤ 9223372036854775807) (hvK : vK ≠ 0) (hsome : ofKey K N S O x.es = some f) :
    Calls Tryz.prog 51 #[.pointer (some ⟨hb, 0, none⟩), .pointer (some ⟨tb, 0, none⟩), .agg #[.int .i64 K, .int .u64 N, .string S, .int .i64 O], .agg #[.int .i64 vK, .int .u64 vN, .string vS, .int .i64 vO]] w fun e w' => e = .returned (.int .i64 0) ∧ Over w hb lim used i R os Z x f ⟨vK, vN, vS, vO⟩ w' := by
  have hfm : f ∈ x.es := List.mem_of_find?_eq_some hsome
  have HB : Hid (Below w.heap.size w ((w.alloc (.cells #[.int .i64 K, .int .u64 N, .string S, .int .i64 O] 37)).alloc (.cells #[.int .i64 vK, .int .u64 vN, .string vS, .int .i64 vO] 37))) := ((Below.refl _ _).alloc (Nat.le_refl _) _).alloc (by simp) _
  have HH : Hid (∀ w', Calls Tryz.prog 25 #[.agg #[.int .i64 K, .int .u64 N, .string S, .int .i64 O]] w' fun e w2 => e = .returned (.int .u64 (hZ K N S O)) ∧ Below w'.heap.size w' w2) := fun w' => hash_any _ _ _ _ w' hS
  have HF : Hid (∀ w', Below w.heap.size w w' → Calls Tryz.prog 24 #[.pointer (some ⟨tb, 0, none⟩), .agg #[.int .i64 K, .int .u64 N, .string S, .int .i64 O], .int .u64 (hZ K N S O)] w' fun e w2 => e = .returned (.pointer (some ⟨f.b, 0, none⟩)) ∧ Below w'.heap.size w' w2) := fun w' hb' => by
    have := tab_find (((h.below hb').ob i x hi).tab tb ht).2.1 K N S O
    rw [hsome] at this
    exact this
  have HQ : Hid (∀ w2, Below w.heap.size w w2 → (EnC w2 f ∧ ∀ o, w2.frozen? ⟨f.b, o, none⟩ = false) ∧ Over w hb lim used i R os Z x f ⟨vK, vN, vS, vO⟩ (setV w2 f.b ⟨vK, vN, vS, vO⟩)) := fun w2 hb2 => by
    have hv := h.below hb2
    have hT := ((hv.ob i x hi).tab tb ht).2.1
    refine ⟨⟨?_, fun o => hT.free f.b o (hT.ent f hfm).1⟩, ?_⟩
    · exact (hT.se.lies f hfm).1
    · obtain ⟨k1, k2⟩ := hv.overw hi ht hfm ⟨vK, vN, vS, vO⟩
      have hs := hb2.size
      have hs2 := k2.size
      exact ⟨Zn.more k1 (fun k hk => by have := h.lt k hk; omega) hs h.two (Nat.le_refl _) h.no1, (Wx.of_below Z hb2).trans k2 (fun k hk => Or.inl hk)⟩
  clear h hi ht hsome hfm
  generalize hZ K N S O = H at *
  go_enter Tryz.func51, Tryz.ntmps51
  go_wp2_with fail
  refine (HH.out _).mono ?_
  rintro e w1 ⟨rfl, hb1⟩
  obtain ⟨p0, p1, p2, p3⟩ := keep4 (b := w.heap.size) (v0 := .int .i64 K) (v1 := .int .u64 N) (v2 := .string S) (v3 := .int .i64 O) ⟨by go_simp, by go_simp, by go_simp, by go_simp⟩ hb1
  have hv1 := keep4 (b := w.heap.size + 1) (v0 := .int .i64 vK) (v1 := .int .u64 vN) (v2 := .string vS) (v3 := .int .i64 vO) ⟨by go_simp, by go_simp, by go_simp, by go_simp⟩ hb1
  have HB1 : Hid (Below w.heap.size w w1) := HB.out.trans (hb1.mono (by simp; omega))
  have HV1 : Hid (_ ∧ _) := hv1
  clear hb1 HB HH hv1
  go_wp2_with fail
  refine (HF.out _ HB1.out).mono ?_
  rintro e w2 ⟨rfl, hb2⟩
  obtain ⟨u0, u1, u2, u3⟩ := keep4 HV1.out hb2
  obtain ⟨⟨⟨_, _, _, _, e4, e5, e6, e7, _⟩, hfz⟩, hov⟩ := HQ.out w2 (HB1.out.trans (hb2.mono HB1.out.size))
  have HO : Hid (Over w hb lim used i R os Z x f ⟨vK, vN, vS, vO⟩ (setV w2 f.b ⟨vK, vN, vS, vO⟩)) := hov
  clear hb2 HB1 HV1 HF HQ hov p0 p1 p2 p3
  go_wp2
  go_ret
  exact ⟨rfl, HO.out⟩

set_option maxHeartbeats 4000000 in
theorem set_drop {w : World} {hb lim used i tb : Nat} {R : Value} {os : List Ob} {Z : Nat → Prop} {x : Ob} {f : En} (h : Hv w hb lim used R os Z) (hi : os[i]? = some x) (ht : x.tb = some tb) (K N : Int) (S : ByteArray) (O vN : Int) (vS : ByteArray) (vO : Int) (hS : S.size ≤ 9223372036854775807) (hsome : ofKey K N S O x.es = some f) (xo yo : List En) (hes : x.es = xo ++ f :: yo) :
    Calls Tryz.prog 51 #[.pointer (some ⟨hb, 0, none⟩), .pointer (some ⟨tb, 0, none⟩), .agg #[.int .i64 K, .int .u64 N, .string S, .int .i64 O], .agg #[.int .i64 0, .int .u64 vN, .string vS, .int .i64 vO]] w fun e w' => e = .returned (.int .i64 0) ∧ Gone w hb lim used i R os Z x xo yo w' := by
  have HB : Hid (Below w.heap.size w ((w.alloc (.cells #[.int .i64 K, .int .u64 N, .string S, .int .i64 O] 37)).alloc (.cells #[.int .i64 0, .int .u64 vN, .string vS, .int .i64 vO] 37))) := ((Below.refl _ _).alloc (Nat.le_refl _) _).alloc (by simp) _
  have HH : Hid (∀ w', Calls Tryz.prog 25 #[.agg #[.int .i64 K, .int .u64 N, .string S, .int .i64 O]] w' fun e w2 => e = .returned (.int .u64 (hZ K N S O)) ∧ Below w'.heap.size w' w2) := fun w' => hash_any _ _ _ _ w' hS
  have HF : Hid (∀ w', Below w.heap.size w w' → Calls Tryz.prog 24 #[.pointer (some ⟨tb, 0, none⟩), .agg #[.int .i64 K, .int .u64 N, .string S, .int .i64 O], .int .u64 (hZ K N S O)] w' fun e w2 => e = .returned (.pointer (some ⟨f.b, 0, none⟩)) ∧ Below w'.heap.size w' w2) := fun w' hb' => by
    have := tab_find (((h.below hb').ob i x hi).tab tb ht).2.1 K N S O
    rw [hsome] at this
    exact this
  have hpos : 1 ≤ used := by
    have hge := sum_ge os i x hi
    have hsum := h.sum
    have hwt : x.wt = 1 + x.es.length + x.sl.length := rfl
    omega
  have HQ : Hid (∀ w2, Below w.heap.size w w2 → Calls Tryz.prog 67 #[.pointer (some ⟨tb, 0, none⟩), .pointer (some ⟨f.b, 0, none⟩)] w2 fun e w5 => e = .returned (.tuple #[]) ∧ w5.cell? ⟨hb, 1, none⟩ = some (.int .i64 (used : Int)) ∧ w5.frozen? ⟨hb, 1, none⟩ = false ∧
      Gone w hb lim used i R os Z x xo yo (w5.setCell ⟨hb, 1, none⟩ (.int .i64 ((used : Int) - 1)))) := fun w2 hb2 => by
    have hv := h.below hb2
    have h0 := (hv.ob i x hi).tab tb ht
    have hT := h0.2.1
    have hk := h0.2.2
    rw [hes] at hT hk
    refine (tab_drop hT (hT.apart_num hk)).mono ?_
    rintro e w5 ⟨rfl, X', k1, k2, k3⟩
    have hnb : ¬ x.X hb := fun c => (h.zx i x hi hb c).2.1 rfl
    obtain ⟨m1, m2⟩ := hv.gone hi ht hes k1 k2 k3
    have hs := hb2.size
    have hs2 := m2.size
    refine ⟨rfl, k2.cell hnb hv.c1, (k2.frozen (hv.lt hb hv.zh) hnb).trans (hv.hfree 1), X', ?_⟩
    rw [show ((used : Int) - 1) = ((used - 1 : Nat) : Int) by omega]
    exact ⟨Zn.more m1 (fun k hk => by have := h.lt k hk; omega) hs h.two (Nat.le_refl _) h.no1, (Wx.of_below Z hb2).trans m2 (fun k hk => Or.inl hk)⟩
  have hu1 : used ≤ 1048576 := by have := h.hl; have := h.hu; omega
  clear h hi ht hsome hes
  generalize hZ K N S O = H at *
  go_enter Tryz.func51, Tryz.ntmps51
  go_wp2_with fail
  refine (HH.out _).mono ?_
  rintro e w1 ⟨rfl, hb1⟩
  obtain ⟨p0, p1, p2, p3⟩ := keep4 (b := w.heap.size) (v0 := .int .i64 K) (v1 := .int .u64 N) (v2 := .string S) (v3 := .int .i64 O) ⟨by go_simp, by go_simp, by go_simp, by go_simp⟩ hb1
  have hv1 := keep4 (b := w.heap.size + 1) (v0 := .int .i64 0) (v1 := .int .u64 vN) (v2 := .string vS) (v3 := .int .i64 vO) ⟨by go_simp, by go_simp, by go_simp, by go_simp⟩ hb1
  have HB1 : Hid (Below w.heap.size w w1) := HB.out.trans (hb1.mono (by simp; omega))
  have HV1 : Hid (_ ∧ _) := hv1
  clear hb1 HB HH hv1
  go_wp2_with fail
  refine (HF.out _ HB1.out).mono ?_
  rintro e w2 ⟨rfl, hb2⟩
  obtain ⟨u0, u1, u2, u3⟩ := keep4 HV1.out hb2
  have HD := HQ.out w2 (HB1.out.trans (hb2.mono HB1.out.size))
  clear hb2 HB1 HV1 HF HQ p0 p1 p2 p3
  go_wp2_with fail
  refine HD.mono ?_
  rintro e w5 ⟨rfl, c1, f1, hg⟩
  have HG : Hid _ := hg
  clear hg HD
  go_wp2
  go_ret
  exact ⟨rfl, HG.out⟩

end Go.Proofs.YthmocdabakkfhaaGreatDoor

/-
  Layer 9: SetMeta.
-/
namespace Go.Proofs.YthmocdabakkfhaaGreatDoor
set_option maxRecDepth 100000
open Go.RowKit Flo

def set4W (w : World) (tb : Nat) (m : V4) : World := (((w.setCell ⟨tb, 0, none⟩ (.int .i64 m.K)).setCell ⟨tb, 1, none⟩ (.int .u64 m.N)).setCell ⟨tb, 2, none⟩ (.string m.S)).setCell ⟨tb, 3, none⟩ (.int .i64 m.O)
theorem set4W_wr (w : World) (tb : Nat) (m : V4) : Wr [(tb, 0), (tb, 1), (tb, 2), (tb, 3)] w (set4W w tb m) :=
  ((((Wr.set w tb 0 _).trans (Wr.set _ tb 1 _)).trans (Wr.set _ tb 2 _)).trans (Wr.set _ tb 3 _)).more (fun a ha => by simpa using ha)
theorem set4W_at {w : World} {tb : Nat} {M : V4} (h : At4 w tb 0 M) (m : V4) : At4 (set4W w tb m) tb 0 m := by
  have h1 := h.c1
  have h2 := h.c2
  have h3 := h.c3
  have h0 := h.c0
  simp only [Nat.zero_add] at h1 h2 h3
  unfold set4W
  refine ⟨?_, ?_, ?_, ?_⟩ <;> (try simp only [Nat.zero_add])
  · rw [World.cell?_setCell_other _ _ _ _ (by simp), World.cell?_setCell_other _ _ _ _ (by simp), World.cell?_setCell_other _ _ _ _ (by simp)]
    exact World.cell?_setCell_same _ _ _ h0
  · rw [World.cell?_setCell_other _ _ _ _ (by simp), World.cell?_setCell_other _ _ _ _ (by simp)]
    exact World.cell?_setCell_same _ _ _ (by rw [World.cell?_setCell_other _ _ _ _ (by simp)]; exact h1)
  · rw [World.cell?_setCell_other _ _ _ _ (by simp)]
    exact World.cell?_setCell_same _ _ _ (by rw [World.cell?_setCell_other _ _ _ _ (by simp), World.cell?_setCell_other _ _ _ _ (by simp)]; exact h2)
  · exact World.cell?_setCell_same _ _ _ (by rw [World.cell?_setCell_other _ _ _ _ (by simp), World.cell?_setCell_other _ _ _ _ (by simp), World.cell?_setCell_other _ _ _ _ (by simp)]; exact h3)
theorem Tv.setM {w : World} {tb : Nat} {X : Nat → Prop} {es : List En} {M : V4} (h : Tv w tb X es M) (m : V4) : Tv (set4W w tb m) tb X es m := by
  have hw := set4W_wr w tb m
  have hA : ∀ k o, (k, o) ∈ [(tb, 0), (tb, 1), (tb, 2), (tb, 3)] → k = tb ∧ o < 4 := by
    intro k o hm
    simp only [List.mem_cons, Prod.mk.injEq, List.not_mem_nil, or_false] at hm
    omega
  have ht : ∀ o, 4 ≤ o → (tb, o) ∉ [(tb, 0), (tb, 1), (tb, 2), (tb, 3)] := fun o ho hm => by have := (hA _ _ hm).2; omega
  have hn : ∀ k o, k ≠ tb → (k, o) ∉ [(tb, 0), (tb, 1), (tb, 2), (tb, 3)] := fun k o hk hm => hk (hA _ _ hm).1
  refine ⟨h.own, fun k hk => Nat.lt_of_lt_of_le (h.lt k hk) hw.size, h.no1, fun k o hk => (hw.2.1 k o (h.lt k hk)).trans (h.free k o hk), fun j hj => hw.cell (hn 1 j (fun c => h.no1 (c ▸ h.own))) (h.db j hj), set4W_at h.mt m,
    h.ord.wr hw (ht 4 (by omega)) (ht 5 (by omega)) (ht 6 (by omega)) (fun e he => ⟨hn _ _ (h.ord.apart e he), hn _ _ (h.ord.apart e he)⟩), h.few, h.u64, fun e he => ⟨(h.ent e he).1, hw.blk (h.ent e he).2⟩, ?_⟩
  rcases h.bod with ⟨e0, c7, c8, c9⟩ | ⟨g, n, c, m, cs, W, s, t⟩
  · exact Or.inl ⟨e0, hw.cell (ht 7 (by omega)) c7, hw.cell (ht 8 (by omega)) c8, hw.cell (ht 9 (by omega)) c9⟩
  · exact Or.inr ⟨g, n, c, m, cs, W, s, t.kb.wr hw (fun j => hn _ _ t.gt) (fun e he o _ => hn _ _ (h.ord.apart e he)), t.kc.wr hw (ht 8 (by omega)) (ht 9 (by omega)) (fun i => hn _ _ (fun c => t.kc.ne c.symm)), t.sz,
      ⟨hw.cell (ht 7 (by omega)) t.row.1, fun j => (hw.2.1 g j t.kb.lt).trans (t.row.2 j)⟩, t.full, t.words, t.n4, t.nfew, t.xg, t.xc, t.gt, t.gc, t.ec⟩

/-- The heap behind SetMeta. -/
theorem Hv.meta {w : World} {hb lim used i tb : Nat} {R : Value} {os : List Ob} {Z : Nat → Prop} {x : Ob} (h : Hv w hb lim used R os Z) (hi : os[i]? = some x) (ht : x.tb = some tb) (m : V4) (hm : m.K = 0 ∨ (m.K = 5 ∧ 1 ≤ m.O ∧ ∃ p, os[(m.O - 1).toNat]? = some p ∧ p.tb ≠ none)) :
    Hv (set4W w tb m) hb lim used R (os.set i { x with M := m }) Z ∧ Wx Z w (set4W w tb m) := by
  have h0 := (h.ob i x hi).tab tb ht
  have hs : (set4W w tb m).heap.size = w.heap.size := by unfold set4W; simp only [World.size_setCell]
  have hwx : Wx (fun k => k = tb) w (set4W w tb m) := Wx.of (set4W_wr w tb m) (fun k o hm => by
    simp only [List.mem_cons, Prod.mk.injEq, List.not_mem_nil, or_false] at hm
    exact Or.inl (by omega))
  have key := h.put0 (o' := { x with M := m }) hi hwx (fun j hj => Or.inl (hj ▸ h0.2.1.own)) rfl ⟨fun t e1 => ?_, fun e1 => ?_⟩ (fun j hj => Or.inl hj) (fun j hj => by rw [hs]; exact h0.2.1.lt j hj) rfl hm rfl
  · obtain ⟨k1, k2⟩ := key
    refine ⟨⟨k1.c0, k1.c1, k1.c2, k1.hfree, k1.row, k1.hl, k1.hu, k1.sum, k1.ob, k1.mt, fun k hk => by rw [hs]; exact h.lt k hk, h.no1, h.zh, h.zr, fun j p hp k hk => ⟨?_, (k1.zx j p hp k hk).2⟩, k1.xx, k1.db⟩, k2⟩
    rcases (k1.zx j p hp k hk).1 with c | c
    · exact c
    · rw [hs] at c; omega
  · have e2 : x.tb = some t := e1
    rw [ht] at e2
    injection e2 with e2
    subst e2
    exact ⟨h0.1, h0.2.1.setM m, h0.2.2⟩
  · have e2 : x.tb = none := e1
    rw [ht] at e2; cases e2

end Go.Proofs.YthmocdabakkfhaaGreatDoor

/-
  Layer 9: Look.
-/
namespace Go.Proofs.YthmocdabakkfhaaGreatDoor
set_option maxRecDepth 100000
open Go.RowKit Flo

/-- What is found of a key in a table, or in those that stand in for it, so many at most. -/
def lookF (os : List Ob) (K N : Int) (S : ByteArray) (O : Int) : Nat → Ob → V4
  | 0, x => fndV (ofKey K N S O x.es)
  | n + 1, x => if (fndV (ofKey K N S O x.es)).K = 0 ∧ x.M.K ≠ 0 then (match tabOf os x.M.O with
    | some y => lookF os K N S O n y
    | none => V0) else fndV (ofKey K N S O x.es)
def lookV (os : List Ob) (o K N : Int) (S : ByteArray) (O : Int) : V4 := match tabOf os o with
  | none => V0
  | some x => if kok K N then lookF os (yK K N) (yN K N) (yS K N S) (yO K N O) 16 x else V0
theorem lookF_stop {os : List Ob} {K N : Int} {S : ByteArray} {O : Int} {n : Nat} {x : Ob} (h : n = 0 ∨ (fndV (ofKey K N S O x.es)).K ≠ 0 ∨ x.M.K = 0) : lookF os K N S O n x = fndV (ofKey K N S O x.es) := by
  cases n with
  | zero => rfl
  | succ n =>
    rw [lookF, if_neg]
    rintro ⟨a, b⟩
    rcases h with c | c | c
    · omega
    · exact c a
    · exact b c
theorem lookF_go {os : List Ob} {K N : Int} {S : ByteArray} {O : Int} {n : Nat} {x y : Ob} (h0 : (fndV (ofKey K N S O x.es)).K = 0) (h1 : x.M.K ≠ 0) (h2 : tabOf os x.M.O = some y) : lookF os K N S O (n + 1) x = lookF os K N S O n y := by
  rw [lookF, if_pos ⟨h0, h1⟩, h2]

/-- How far the search is. -/
structure LI (w0 : World) (os : List Ob) (YK YN : Int) (YS : ByteArray) (YO : Int) (RES : V4) (k j tby : Nat) (mK mO VK VN : Int) (VS : ByteArray) (VO : Int) (wr : World) : Prop where
  k : k = 16 - j
  y : ∃ (ix : Nat) (y : Ob), os[ix]? = some y ∧ y.tb = some tby ∧ y.M.K = mK ∧ y.M.O = mO ∧ fndV (ofKey YK YN YS YO y.es) = ⟨VK, VN, VS, VO⟩ ∧ lookF os YK YN YS YO (16 - j) y = RES
  b : Below w0.heap.size w0 wr

set_option maxHeartbeats 4000000 in
theorem look_hv {w : World} {hb lim used : Nat} {R : Value} {os : List Ob} {Z : Nat → Prop} (h : Hv w hb lim used R os Z) (o K N : Int) (S : ByteArray) (O : Int) (hN : U64 N) (hS : S.size ≤ 9223372036854775807) :
    Calls Tryz.prog 39 #[.pointer (some ⟨hb, 0, none⟩), .int .i64 o, .agg #[.int .i64 K, .int .u64 N, .string S, .int .i64 O]] w fun e w' => e = .returned (lookV os o K N S O).val ∧ Below w.heap.size w w' := by
  have hb0 : Below w.heap.size w ((w.alloc (.cells #[.int .i64 K, .int .u64 N, .string S, .int .i64 O] 37)).alloc (.cells #[.int .i64 0, .int .u64 0, .string ⟨#[]⟩, .int .i64 0] 37)) := ((Below.refl _ _).alloc (Nat.le_refl _) _).alloc (by simp) _
  have HT := tableOf_hv (h.below hb0) o
  have HK : Hid (∀ w, Calls Tryz.prog 23 #[.agg #[.int .i64 K, .int .u64 N, .string S, .int .i64 O]] w fun e w' => e = .returned (.tuple #[.agg #[.int .i64 (yK K N), .int .u64 (yN K N), .string (yS K N S), .int .i64 (yO K N O)], .bool (kok K N)]) ∧ Below w.heap.size w w') := fun w => key_any K N S O w hN
  have HB : Hid (Below w.heap.size w ((w.alloc (.cells #[.int .i64 K, .int .u64 N, .string S, .int .i64 O] 37)).alloc (.cells #[.int .i64 0, .int .u64 0, .string ⟨#[]⟩, .int .i64 0] 37))) := hb0
  unfold lookV
  unfold ptrOf at HT
  cases hx : tabOf os o with
  | none =>
    rw [hx] at HT
    simp only [Option.bind_none] at HT
    clear h hx hb0
    generalize yK K N = YK at *
    generalize yN K N = YN at *
    generalize yS K N S = YS at *
    generalize yO K N O = YO at *
    generalize kok K N = ko at *
    go_enter Tryz.func39, Tryz.ntmps39
    go_wp2_with fail
    refine HT.mono ?_
    rintro e w1 ⟨rfl, rfl⟩
    clear HT
    go_wp2_with fail
    refine (HK.out _).mono ?_
    rintro e w1 ⟨rfl, hb1⟩
    have hc : ∀ i, w1.cell? ⟨w.heap.size + 1, i, none⟩ = ((w.alloc (.cells #[.int .i64 K, .int .u64 N, .string S, .int .i64 O] 37)).alloc (.cells #[.int .i64 0, .int .u64 0, .string ⟨#[]⟩, .int .i64 0] 37)).cell? ⟨w.heap.size + 1, i, none⟩ := fun i => hb1.cell (by simp)
    have z0 : w1.cell? ⟨w.heap.size + 1, 0, none⟩ = some (.int .i64 0) := by rw [hc]; go_simp
    have z1 : w1.cell? ⟨w.heap.size + 1, 1, none⟩ = some (.int .u64 0) := by rw [hc]; go_simp
    have z2 : w1.cell? ⟨w.heap.size + 1, 2, none⟩ = some (.string ⟨#[]⟩) := by rw [hc]; go_simp
    have z3 : w1.cell? ⟨w.heap.size + 1, 3, none⟩ = some (.int .i64 0) := by rw [hc]; go_simp
    have hf : ∀ i, w1.frozen? ⟨w.heap.size + 1, i, none⟩ = false := fun i => (hb1.frozen (by simp)).trans (by go_simp)
    have HB1 : Hid (Below w.heap.size w w1) := HB.out.trans (hb1.mono (by simp; omega))
    have hsz : w.heap.size + 1 < w1.heap.size := by have := hb1.size; simp at this; omega
    clear hb1 hc HB HK
    go_wp2
    exact bodyPost_ret (v := V0.val) (by simp [results, Tryz.results39, go_sem, V0, V4.val, vl4, z0, z1, z2, z3, hsz]) rfl ⟨rfl, (set41 HB1.out (by omega) _ _ _ _).alloc (by simp; omega) _⟩
  | some x =>
    obtain ⟨i, tb, ho, hi, ht⟩ := tabOf_some hx
    rw [hx] at HT
    rw [show (some x).bind Ob.ptr = some ⟨tb, 0, none⟩ by simp [Ob.ptr, ht]] at HT
    have HTV : Hid (∀ w', Below w.heap.size w w' → Tv w' tb x.X x.es x.M) := fun w' hb => (((h.below hb).ob i x hi).tab tb ht).2.1
    have HSY : Hid ((yS K N S).size ≤ 9223372036854775807) := by
      show (yS K N S).size ≤ _
      unfold yS nS
      split
      · split
        · exact hS
        · exact Nat.zero_le _
      · exact Nat.zero_le _
    simp only
    cases hko : kok K N with
    | false =>
      rw [if_neg (by decide)]
      rw [hko] at HK
      clear h hx hb0 HTV ho hi ht hko HSY
      generalize yK K N = YK at *
      generalize yN K N = YN at *
      generalize yS K N S = YS at *
      generalize yO K N O = YO at *
      go_enter Tryz.func39, Tryz.ntmps39
      go_wp2_with fail
      refine HT.mono ?_
      rintro e w1 ⟨rfl, rfl⟩
      clear HT
      go_wp2_with fail
      refine (HK.out _).mono ?_
      rintro e w1 ⟨rfl, hb1⟩
      have hc : ∀ i, w1.cell? ⟨w.heap.size + 1, i, none⟩ = ((w.alloc (.cells #[.int .i64 K, .int .u64 N, .string S, .int .i64 O] 37)).alloc (.cells #[.int .i64 0, .int .u64 0, .string ⟨#[]⟩, .int .i64 0] 37)).cell? ⟨w.heap.size + 1, i, none⟩ := fun i => hb1.cell (by simp)
      have z0 : w1.cell? ⟨w.heap.size + 1, 0, none⟩ = some (.int .i64 0) := by rw [hc]; go_simp
      have z1 : w1.cell? ⟨w.heap.size + 1, 1, none⟩ = some (.int .u64 0) := by rw [hc]; go_simp
      have z2 : w1.cell? ⟨w.heap.size + 1, 2, none⟩ = some (.string ⟨#[]⟩) := by rw [hc]; go_simp
      have z3 : w1.cell? ⟨w.heap.size + 1, 3, none⟩ = some (.int .i64 0) := by rw [hc]; go_simp
      have hf : ∀ i, w1.frozen? ⟨w.heap.size + 1, i, none⟩ = false := fun i => (hb1.frozen (by simp)).trans (by go_simp)
      have HB1 : Hid (Below w.heap.size w w1) := HB.out.trans (hb1.mono (by simp; omega))
      have hsz : w.heap.size + 1 < w1.heap.size := by have := hb1.size; simp at this; omega
      clear hb1 hc HB HK
      go_wp2
      exact bodyPost_ret (v := V0.val) (by simp [results, Tryz.results39, go_sem, V0, V4.val, vl4, z0, z1, z2, z3, hsz]) rfl ⟨rfl, (set41 HB1.out (by omega) _ _ _ _).alloc (by simp; omega) _⟩
    | true =>
      rw [if_pos rfl]
      rw [hko] at HK
      have HM : Hid (∀ (ix : Nat) (y : Ob) (tby : Nat) w', os[ix]? = some y → y.tb = some tby → Below w.heap.size w w' → w'.cell? ⟨tby, 0, none⟩ = some (.int .i64 y.M.K) ∧ w'.cell? ⟨tby, 3, none⟩ = some (.int .i64 y.M.O)) := fun ix y tby w' h1 h2 hb' => by
        have := (((h.below hb').ob ix y h1).tab tby h2).2.1.mt
        exact ⟨this.c0, this.c3⟩
      have HG : Hid (∀ (ix : Nat) (y : Ob) (tby : Nat) w', os[ix]? = some y → y.tb = some tby → Below w.heap.size w w' → Calls Tryz.prog 26 #[.pointer (some ⟨tby, 0, none⟩), .agg #[.int .i64 (yK K N), .int .u64 (yN K N), .string (yS K N S), .int .i64 (yO K N O)], .int .u64 (hZ (yK K N) (yN K N) (yS K N S) (yO K N O))] w' fun e w2 => e = .returned (.agg #[.int .i64 (fndV (ofKey (yK K N) (yN K N) (yS K N S) (yO K N O) y.es)).K, .int .u64 (fndV (ofKey (yK K N) (yN K N) (yS K N S) (yO K N O) y.es)).N, .string (fndV (ofKey (yK K N) (yN K N) (yS K N S) (yO K N O) y.es)).S, .int .i64 (fndV (ofKey (yK K N) (yN K N) (yS K N S) (yO K N O) y.es)).O]) ∧ Below w'.heap.size w' w2) := fun ix y tby w' h1 h2 hb' => tab_get (((h.below hb').ob ix y h1).tab tby h2).2.1 _ _ _ _
      have HH : Hid (∀ w', Calls Tryz.prog 25 #[.agg #[.int .i64 (yK K N), .int .u64 (yN K N), .string (yS K N S), .int .i64 (yO K N O)]] w' fun e w2 => e = .returned (.int .u64 (hZ (yK K N) (yN K N) (yS K N S) (yO K N O))) ∧ Below w'.heap.size w' w2) := fun w' => hash_any _ _ _ _ w' HSY.out
      have HNX : Hid (∀ (ix : Nat) (y : Ob), os[ix]? = some y → y.M.K ≠ 0 → ∃ (jx : Nat) (z : Ob) (tbz : Nat), os[jx]? = some z ∧ z.tb = some tbz ∧ tabOf os y.M.O = some z ∧ ∀ w', Below w.heap.size w w' → Calls Tryz.prog 21 #[.pointer (some ⟨hb, 0, none⟩), .int .i64 y.M.O] w' fun e w2 => e = .returned (.pointer (some ⟨tbz, 0, none⟩)) ∧ w2 = w') := fun ix y h1 h2 => by
        rcases h.mt ix y h1 with c | ⟨_, c2, z, c3, c4⟩
        · exact absurd c h2
        · obtain ⟨tbz, hz⟩ := Option.ne_none_iff_exists'.1 c4
          have e1 : y.M.O = (((y.M.O - 1).toNat : Nat) : Int) + 1 := by omega
          have e2 : tabOf os y.M.O = some z := by rw [e1]; exact tabOf_of c3 hz
          refine ⟨_, z, tbz, c3, hz, e2, fun w' hb' => ?_⟩
          have := tableOf_hv (h.below hb') y.M.O
          rw [show ptrOf os y.M.O = some ⟨tbz, 0, none⟩ by unfold ptrOf; rw [e2]; simp [Ob.ptr, hz]] at this
          exact this
      have HX : Hid (os[i]? = some x ∧ x.tb = some tb) := ⟨hi, ht⟩
      clear h hx hb0 HTV ho hi ht hko HSY
      obtain ⟨RES, hres⟩ : ∃ RES, RES = lookF os (yK K N) (yN K N) (yS K N S) (yO K N O) 16 x := ⟨_, rfl⟩
      have HR : Hid (lookF os (yK K N) (yN K N) (yS K N S) (yO K N O) 16 x = RES) := hres.symm
      rw [← hres]
      clear hres
      generalize hZ (yK K N) (yN K N) (yS K N S) (yO K N O) = HZ at *
      generalize yK K N = YK at *
      generalize yN K N = YN at *
      generalize yS K N S = YS at *
      generalize yO K N O = YO at *
      go_enter Tryz.func39, Tryz.ntmps39
      go_wp2_with fail
      refine HT.mono ?_
      rintro e w1 ⟨rfl, rfl⟩
      clear HT
      go_wp2_with fail
      refine (HK.out _).mono ?_
      rintro e w1 ⟨rfl, hb1⟩
      have HB1 : Hid (Below ((w.alloc (.cells #[.int .i64 K, .int .u64 N, .string S, .int .i64 O] 37)).alloc (.cells #[.int .i64 0, .int .u64 0, .string ⟨#[]⟩, .int .i64 0] 37)).heap.size ((w.alloc (.cells #[.int .i64 K, .int .u64 N, .string S, .int .i64 O] 37)).alloc (.cells #[.int .i64 0, .int .u64 0, .string ⟨#[]⟩, .int .i64 0] 37)) w1) := hb1
      have hsz : w.heap.size + 1 < w1.heap.size := by have := hb1.size; simp at this; omega
      clear hb1 HK
      go_wp2_with fail
      refine (HH.out _).mono ?_
      rintro e w2 ⟨rfl, hb2⟩
      obtain ⟨p0, p1, p2, p3⟩ := keep4 (b := w1.heap.size) (v0 := .int .i64 YK) (v1 := .int .u64 YN) (v2 := .string YS) (v3 := .int .i64 YO) ⟨by go_simp, by go_simp, by go_simp, by go_simp⟩ hb2
      have hs2 : w1.heap.size < w2.heap.size := by have := hb2.size; simp at this; omega
      have HB2 : Hid (Below ((w.alloc (.cells #[.int .i64 K, .int .u64 N, .string S, .int .i64 O] 37)).alloc (.cells #[.int .i64 0, .int .u64 0, .string ⟨#[]⟩, .int .i64 0] 37)).heap.size ((w.alloc (.cells #[.int .i64 K, .int .u64 N, .string S, .int .i64 O] 37)).alloc (.cells #[.int .i64 0, .int .u64 0, .string ⟨#[]⟩, .int .i64 0] 37)) w2) := (HB1.out.alloc (by have := HB1.out.size; simp at this ⊢; omega) _).trans (hb2.mono (by have := HB1.out.size; simp at this ⊢; omega))
      clear hb2 HH HB1
      go_wp2_with fail
      refine (HG.out i x tb _ HX.out.1 HX.out.2 (HB.out.trans (HB2.out.mono (by simp; omega)))).mono ?_
      rintro e w3 ⟨rfl, hb3⟩
      obtain ⟨p0', p1', p2', p3'⟩ := keep4 ⟨p0, p1, p2, p3⟩ hb3
      have HB3 : Hid (Below ((w.alloc (.cells #[.int .i64 K, .int .u64 N, .string S, .int .i64 O] 37)).alloc (.cells #[.int .i64 0, .int .u64 0, .string ⟨#[]⟩, .int .i64 0] 37)).heap.size ((w.alloc (.cells #[.int .i64 K, .int .u64 N, .string S, .int .i64 O] 37)).alloc (.cells #[.int .i64 0, .int .u64 0, .string ⟨#[]⟩, .int .i64 0] 37)) w3) := HB2.out.trans (hb3.mono HB2.out.size)
      have hs3 : w1.heap.size < w3.heap.size := by have := hb3.size; omega
      clear hb3 HB2 p0 p1 p2 p3
      go_wp2_with fail
      go_loopg [7, 12] 16 (fun k p q wr => ∃ (j tby : Nat) (mK mO VK VN : Int) (VS : ByteArray) (VO : Int), p = .pointer (some ⟨tby, 0, none⟩) ∧ q = .int .i64 (j : Int) ∧ j ≤ 16 ∧ (wr.cell? ⟨w1.heap.size, 0, none⟩ = some (.int .i64 YK) ∧ wr.cell? ⟨w1.heap.size, 1, none⟩ = some (.int .u64 YN) ∧ wr.cell? ⟨w1.heap.size, 2, none⟩ = some (.string YS) ∧ wr.cell? ⟨w1.heap.size, 3, none⟩ = some (.int .i64 YO)) ∧
        (wr.cell? ⟨w3.heap.size, 0, none⟩ = some (.int .i64 VK) ∧ wr.cell? ⟨w3.heap.size, 1, none⟩ = some (.int .u64 VN) ∧ wr.cell? ⟨w3.heap.size, 2, none⟩ = some (.string VS) ∧ wr.cell? ⟨w3.heap.size, 3, none⟩ = some (.int .i64 VO)) ∧ (∀ i, wr.frozen? ⟨w3.heap.size, i, none⟩ = false) ∧ wr.cell? ⟨tby, 0, none⟩ = some (.int .i64 mK) ∧ wr.cell? ⟨tby, 3, none⟩ = some (.int .i64 mO) ∧
        Hid (LI ((w.alloc (.cells #[.int .i64 K, .int .u64 N, .string S, .int .i64 O] 37)).alloc (.cells #[.int .i64 0, .int .u64 0, .string ⟨#[]⟩, .int .i64 0] 37)) os YK YN YS YO RES k j tby mK mO VK VN VS VO wr))
      case atStart =>
        have hm := HM.out i x tb (w3.alloc (.cells #[.int .i64 (fndV (ofKey YK YN YS YO x.es)).K, .int .u64 (fndV (ofKey YK YN YS YO x.es)).N, .string (fndV (ofKey YK YN YS YO x.es)).S, .int .i64 (fndV (ofKey YK YN YS YO x.es)).O] 37)) HX.out.1 HX.out.2 (HB.out.trans ((HB3.out.alloc HB3.out.size _).mono (by simp; omega)))
        exact ⟨0, tb, x.M.K, x.M.O, (fndV (ofKey YK YN YS YO x.es)).K, (fndV (ofKey YK YN YS YO x.es)).N, (fndV (ofKey YK YN YS YO x.es)).S, (fndV (ofKey YK YN YS YO x.es)).O, rfl, rfl, by omega, ⟨by go_simp, by go_simp, by go_simp, by go_simp⟩, ⟨by go_simp, by go_simp, by go_simp, by go_simp⟩, fun i => by go_simp, hm.1, hm.2, ⟨rfl, ⟨i, x, HX.out.1, HX.out.2, rfl, rfl, rfl, HR.out⟩, HB3.out.alloc HB3.out.size _⟩⟩
      case round =>
        obtain ⟨j, tby, mK, mO, VK, VN, VS, VO, rfl, rfl, hj, ⟨k0, k1, k2, k3⟩, ⟨v0, v1, v2, v3⟩, vf, m0, m3, HI⟩ := hrel
        clear p0' p1' p2' p3'
        by_cases c1 : j < 16
        · by_cases c2 : VK = 0
          · by_cases c3 : mK = 0
            · have c1i : (j : Int) < 16 := by omega
              subst c3
              subst c2
              have HBe : Hid (Below w.heap.size w wr) := HB.out.trans (HI.out.b.mono (by simp; omega))
              have hre : RES = ⟨0, VN, VS, VO⟩ := by
                obtain ⟨ix, y, hy, hty, hmK, hmO, hV, hL⟩ := HI.out.y
                rw [← hL, ← hV]
                exact lookF_stop (by first | exact Or.inl (by omega) | exact Or.inr (Or.inl (by rw [hV]; assumption)) | exact Or.inr (Or.inr hmK))
              obtain ⟨t0, t1, t2, t3⟩ := keep4 (W := ((w.alloc (.cells #[.int .i64 K, .int .u64 N, .string S, .int .i64 O] 37)).alloc (.cells #[.int .i64 0, .int .u64 0, .string ⟨#[]⟩, .int .i64 0] 37))) (b := w.heap.size + 1) (v0 := .int .i64 0) (v1 := .int .u64 0) (v2 := .string ⟨#[]⟩) (v3 := .int .i64 0) ⟨by go_simp, by go_simp, by go_simp, by go_simp⟩ HI.out.b
              have hf3 : ∀ i, wr.frozen? ⟨w.heap.size + 1, i, none⟩ = false := fun i => (HI.out.b.frozen (by simp)).trans (by go_simp)
              subst hre
              clear HI HNX HG HM HR HX HB3 HB m3
              go_wp2
              exact bodyPost_ret (v := (⟨0, VN, VS, VO⟩ : V4).val) (by simp [results, Tryz.results39, go_sem, V4.val, vl4, t0, t1, t2, t3]) rfl ⟨rfl, set41 HBe.out (by omega) _ _ _ _⟩
            · have c1i : (j : Int) < 16 := by omega
              subst c2
              obtain ⟨ix, y, hy, hty, hmK, hmO, hV, hL⟩ := HI.out.y
              obtain ⟨jx, z, tbz, hz, htz, htab, hcall⟩ := HNX.out ix y hy (by rw [hmK]; exact c3)
              rw [hmO] at hcall htab
              have hL2 : lookF os YK YN YS YO (16 - (j + 1)) z = RES := by
                rw [← hL, show 16 - j = (16 - (j + 1)) + 1 by omega]
                exact (lookF_go (by rw [hV]) (by rw [hmK]; exact c3) (by rw [hmO]; exact htab)).symm
              have HBw : Hid (Below w.heap.size w wr) := HB.out.trans (HI.out.b.mono (by simp; omega))
              have HC := hcall wr HBw.out
              have HGz := HG.out jx z tbz wr hz htz HBw.out
              have HZZ : Hid (os[jx]? = some z ∧ z.tb = some tbz ∧ lookF os YK YN YS YO (16 - (j + 1)) z = RES) := ⟨hz, htz, hL2⟩
              have hsr : w3.heap.size < wr.heap.size := World.block_lt_of_cell? wr ⟨w3.heap.size, 0, none⟩ v0
              have hK : Hid (gk = 16 - j) := HI.out.k
              have HIb : Hid (Below ((w.alloc (.cells #[.int .i64 K, .int .u64 N, .string S, .int .i64 O] 37)).alloc (.cells #[.int .i64 0, .int .u64 0, .string ⟨#[]⟩, .int .i64 0] 37)).heap.size ((w.alloc (.cells #[.int .i64 K, .int .u64 N, .string S, .int .i64 O] 37)).alloc (.cells #[.int .i64 0, .int .u64 0, .string ⟨#[]⟩, .int .i64 0] 37)) wr) := HI.out.b
              clear hy hty hmK hmO hV hL hz htz htab hcall hL2 HI HNX HR HX
              go_wp2_with fail
              refine HC.mono ?_
              rintro e w4 ⟨rfl, rfl⟩
              clear HC
              go_wp2_with fail
              refine HGz.mono ?_
              rintro e w5 ⟨rfl, hb5⟩
              obtain ⟨k0', k1', k2', k3'⟩ := keep4 ⟨k0, k1, k2, k3⟩ hb5
              obtain ⟨v0', v1', v2', v3'⟩ := keep4 ⟨v0, v1, v2, v3⟩ hb5
              have vf' : ∀ i, w5.frozen? ⟨w3.heap.size, i, none⟩ = false := fun i => (hb5.frozen hsr).trans (vf i)
              have HB5 : Hid (Below ((w.alloc (.cells #[.int .i64 K, .int .u64 N, .string S, .int .i64 O] 37)).alloc (.cells #[.int .i64 0, .int .u64 0, .string ⟨#[]⟩, .int .i64 0] 37)).heap.size ((w.alloc (.cells #[.int .i64 K, .int .u64 N, .string S, .int .i64 O] 37)).alloc (.cells #[.int .i64 0, .int .u64 0, .string ⟨#[]⟩, .int .i64 0] 37)) w5) := HIb.out.trans (hb5.mono HIb.out.size)
              have hne1 : ¬ w1.heap.size = w3.heap.size := by omega
              clear hb5 HGz HIb k0 k1 k2 k3 v0 v1 v2 v3 vf m0 m3
              go_wp2_with fail
              go_roundg (16 - (j + 1))
              case measure => have := hK.out; omega
              case rel =>
                have hb6 := set41 HB5.out (b := w3.heap.size) (by have := HB3.out.size; omega) (.int .i64 (fndV (ofKey YK YN YS YO z.es)).K) (.int .u64 (fndV (ofKey YK YN YS YO z.es)).N) (.string (fndV (ofKey YK YN YS YO z.es)).S) (.int .i64 (fndV (ofKey YK YN YS YO z.es)).O)
                have hm := HM.out jx z tbz _ HZZ.out.1 HZZ.out.2.1 (HB.out.trans (hb6.mono (by simp; omega)))
                exact ⟨j + 1, tbz, z.M.K, z.M.O, (fndV (ofKey YK YN YS YO z.es)).K, (fndV (ofKey YK YN YS YO z.es)).N, (fndV (ofKey YK YN YS YO z.es)).S, (fndV (ofKey YK YN YS YO z.es)).O, rfl, by go_num, by omega, keep4' ⟨k0', k1', k2', k3'⟩ hne1, ⟨by go_simp, by go_simp, by go_simp, by go_simp⟩, fun i => by go_simp, hm.1, hm.2, ⟨rfl, ⟨jx, z, HZZ.out.1, HZZ.out.2.1, rfl, rfl, rfl, HZZ.out.2.2⟩, hb6⟩⟩
          · have c1i : (j : Int) < 16 := by omega
            have c2i : ¬ (VK = 0) := c2
            have HBe : Hid (Below w.heap.size w wr) := HB.out.trans (HI.out.b.mono (by simp; omega))
            have hre : RES = ⟨VK, VN, VS, VO⟩ := by
              obtain ⟨ix, y, hy, hty, hmK, hmO, hV, hL⟩ := HI.out.y
              rw [← hL, ← hV]
              exact lookF_stop (by first | exact Or.inl (by omega) | exact Or.inr (Or.inl (by rw [hV]; assumption)) | exact Or.inr (Or.inr hmK))
            obtain ⟨t0, t1, t2, t3⟩ := keep4 (W := ((w.alloc (.cells #[.int .i64 K, .int .u64 N, .string S, .int .i64 O] 37)).alloc (.cells #[.int .i64 0, .int .u64 0, .string ⟨#[]⟩, .int .i64 0] 37))) (b := w.heap.size + 1) (v0 := .int .i64 0) (v1 := .int .u64 0) (v2 := .string ⟨#[]⟩) (v3 := .int .i64 0) ⟨by go_simp, by go_simp, by go_simp, by go_simp⟩ HI.out.b
            have hf3 : ∀ i, wr.frozen? ⟨w.heap.size + 1, i, none⟩ = false := fun i => (HI.out.b.frozen (by simp)).trans (by go_simp)
            subst hre
            clear HI HNX HG HM HR HX HB3 HB m3
            go_wp2
            exact bodyPost_ret (v := (⟨VK, VN, VS, VO⟩ : V4).val) (by simp [results, Tryz.results39, go_sem, V4.val, vl4, t0, t1, t2, t3]) rfl ⟨rfl, set41 HBe.out (by omega) _ _ _ _⟩
        · have c1i : ¬ (j : Int) < 16 := by omega
          have HBe : Hid (Below w.heap.size w wr) := HB.out.trans (HI.out.b.mono (by simp; omega))
          have hre : RES = ⟨VK, VN, VS, VO⟩ := by
            obtain ⟨ix, y, hy, hty, hmK, hmO, hV, hL⟩ := HI.out.y
            rw [← hL, ← hV]
            exact lookF_stop (by first | exact Or.inl (by omega) | exact Or.inr (Or.inl (by rw [hV]; assumption)) | exact Or.inr (Or.inr hmK))
          obtain ⟨t0, t1, t2, t3⟩ := keep4 (W := ((w.alloc (.cells #[.int .i64 K, .int .u64 N, .string S, .int .i64 O] 37)).alloc (.cells #[.int .i64 0, .int .u64 0, .string ⟨#[]⟩, .int .i64 0] 37))) (b := w.heap.size + 1) (v0 := .int .i64 0) (v1 := .int .u64 0) (v2 := .string ⟨#[]⟩) (v3 := .int .i64 0) ⟨by go_simp, by go_simp, by go_simp, by go_simp⟩ HI.out.b
          have hf3 : ∀ i, wr.frozen? ⟨w.heap.size + 1, i, none⟩ = false := fun i => (HI.out.b.frozen (by simp)).trans (by go_simp)
          subst hre
          clear HI HNX HG HM HR HX HB3 HB m3
          go_wp2
          exact bodyPost_ret (v := (⟨VK, VN, VS, VO⟩ : V4).val) (by simp [results, Tryz.results39, go_sem, V4.val, vl4, t0, t1, t2, t3]) rfl ⟨rfl, set41 HBe.out (by omega) _ _ _ _⟩

end Go.Proofs.YthmocdabakkfhaaGreatDoor

/-
  Layer 9: what a table's size says, whole; the numbers 1 and 5; the reference's Number.
-/
namespace Go.Proofs.YthmocdabakkfhaaGreatDoor
set_option maxRecDepth 100000
open Go.RowKit Flo

/-- An entry's key is the whole number z. -/
def numE (e : En) (z : Int) : Prop := e.K = 3 ∧ toB e.N = true ∧ toI e.N = z
theorem pigeon (f : En → Int) : ∀ (k : Nat) (l : List En), (∀ p, p < k → ∃ e ∈ l, f e = (p : Int)) → k ≤ l.length
  | 0, _, _ => Nat.zero_le _
  | k + 1, l, h => by
    obtain ⟨e, he, hf⟩ := h k (by omega)
    have h1 := pigeon f k (l.filter fun x => decide (f x ≠ (k : Int))) (fun p hp => by
      obtain ⟨e', he', hf'⟩ := h p (by omega)
      exact ⟨e', List.mem_filter.2 ⟨he', decide_eq_true (by omega)⟩, hf'⟩)
    have h2 : (l.filter fun x => decide (f x ≠ (k : Int))).length < l.length := by
      refine Nat.lt_of_le_of_ne (List.length_filter_le _ _) (fun c => ?_)
      have h3 := List.length_filter_eq_length_iff.1 c e he
      exact of_decide_eq_true h3 hf
    omega
theorem Tv.size2 {w : World} {tb : Nat} {X : Nat → Prop} {es : List En} {M : V4} (h : Tv w tb X es M) :
    ∃ s : Nat, w.cell? ⟨tb, 9, none⟩ = some (.int .i64 (s : Int)) ∧ (∀ p, p < s → ∃ e ∈ es, numE e ((p : Int) + 1)) ∧ ∀ e ∈ es, ¬ numE e ((s : Int) + 1) := by
  rcases h.bod with ⟨e0, c7, c8, c9⟩ | ⟨g, n, c, m, cs, W, s, t⟩
  · exact ⟨0, c9, fun p hp => by omega, fun e he => by rw [e0] at he; cases he⟩
  · have h1 : ∀ p, p < s → ∃ e ∈ es, numE e ((p : Int) + 1) := fun p hp => by
      obtain ⟨e, he, hb, hp2⟩ := t.sz.all p hp
      have hb2 := hb
      unfold bitB at hb2
      have h2 := of_decide_eq_true hb2
      refine ⟨e, he, h2.1, h2.2.1, ?_⟩
      unfold bitN at hp2
      rw [if_pos hb] at hp2
      omega
    refine ⟨s, t.kc.size, h1, fun e he hn => ?_⟩
    by_cases c : s < m * 64
    · refine t.sz.gap c ⟨e, he, ?_, ?_⟩
      · unfold bitB
        exact decide_eq_true ⟨hn.1, hn.2.1, by rw [hn.2.2]; omega, by rw [hn.2.2]; omega⟩
      · have hb : bitB m e.K e.N = true := by
          unfold bitB
          exact decide_eq_true ⟨hn.1, hn.2.1, by rw [hn.2.2]; omega, by rw [hn.2.2]; omega⟩
        unfold bitN
        rw [if_pos hb, hn.2.2]
        omega
    · have hfit := t.sz.fit
      have hfull := t.full
      have hwords := t.words
      have := pigeon (fun e => toI e.N - 1) (s + 1) es (fun p hp => by
        by_cases d : p = s
        · exact ⟨e, he, by simp only [hn.2.2]; omega⟩
        · obtain ⟨e', he', hn'⟩ := h1 p (by omega)
          exact ⟨e', he', by simp only [hn'.2.2]; omega⟩)
      omega

theorem one_whole : toB 4607182418800017408 = true ∧ toI 4607182418800017408 = 1 := ⟨by kernel_rfl, by kernel_rfl⟩
theorem one_key : kok 3 4607182418800017408 = true ∧ yK 3 4607182418800017408 = 3 ∧ yN 3 4607182418800017408 = 4607182418800017408 := ⟨by kernel_rfl, by kernel_rfl, by kernel_rfl⟩
theorem five_norm : nN 3 4617315517961601024 = 4617315517961601024 := by kernel_rfl

theorem canon_1 : canonZ (fromZ 1) = 4607182418800017408 := by kernel_rfl
theorem canon_5 : canonZ (fromZ 5) = 4617315517961601024 := by kernel_rfl

set_option maxHeartbeats 1000000 in
theorem refNum_any (N : Int) (w : World) (hN : U64 N) :
    Calls Tryz.prog 52 #[.int .u64 N] w fun e w' => e = .returned (.agg #[.int .i64 3, .int .u64 (canonZ N), .string ⟨#[]⟩, .int .i64 0]) ∧ Below w.heap.size w w' := by
  have HB : Hid (Below w.heap.size w (w.alloc (.cells #[.int .i64 0, .int .u64 0, .string ⟨#[]⟩, .int .i64 0] 37))) := (Below.refl _ _).alloc (Nat.le_refl _) _
  have HC := fun w => refCanon_any N w hN
  generalize canonZ N = M at *
  go_enter Tryz.func52, Tryz.ntmps52
  go_wp2_with fail
  refine (HC _).mono ?_
  rintro e w1 ⟨rfl, rfl⟩
  go_wp2
  exact bodyPost_ret (v := .agg #[.int .i64 3, .int .u64 M, .string ⟨#[]⟩, .int .i64 0]) (by simp [results, Tryz.results52, go_sem]) rfl ⟨rfl, by first | exact set41 HB.out (Nat.le_refl _) _ _ _ _ | exact (Below.refl _ _).alloc (Nat.le_refl _) _⟩
set_option maxHeartbeats 1000000 in
theorem number_any (n : Int) (w : World) (h0 : -9223372036854775808 ≤ n) (h1 : n ≤ 9223372036854775807) :
    Calls Tryz.prog 18 #[.int .i64 n] w fun e w' => e = .returned (.agg #[.int .i64 3, .int .u64 (canonZ (fromZ n)), .string ⟨#[]⟩, .int .i64 0]) ∧ Below w.heap.size w w' := by
  have HF : Hid _ := fun w => refFromInt_any n w h0 h1
  have HN : Hid _ := fun w => refNum_any (fromZ n) w (fromZ_u64 n)
  generalize canonZ (fromZ n) = M at *
  generalize fromZ n = R at *
  have HB : Hid (Below w.heap.size w (w.alloc (.cells #[.int .i64 0, .int .u64 0, .string ⟨#[]⟩, .int .i64 0] 37))) := (Below.refl _ _).alloc (Nat.le_refl _) _
  go_enter Tryz.func18, Tryz.ntmps18
  go_wp2_with fail
  refine (HF.out _).mono ?_
  rintro e w1 ⟨rfl, hb1⟩
  have HB1 : Hid (Below w.heap.size w w1) := HB.out.trans (hb1.mono (by simp))
  obtain ⟨t0, t1, t2, t3⟩ := keep4 (b := w.heap.size) (v0 := .int .i64 0) (v1 := .int .u64 0) (v2 := .string ⟨#[]⟩) (v3 := .int .i64 0) ⟨by go_simp, by go_simp, by go_simp, by go_simp⟩ hb1
  have hf1 : ∀ i, w1.frozen? ⟨w.heap.size, i, none⟩ = false := fun i => (hb1.frozen (by simp)).trans (by go_simp)
  clear hb1 HF HB
  go_wp2_with fail
  refine (HN.out _).mono ?_
  rintro e w2 ⟨rfl, hb2⟩
  have hs : w.heap.size < w1.heap.size := World.block_lt_of_cell? w1 ⟨w.heap.size, 0, none⟩ t0
  obtain ⟨t0, t1, t2, t3⟩ := keep4 ⟨t0, t1, t2, t3⟩ hb2
  have hf2 : ∀ i, w2.frozen? ⟨w.heap.size, i, none⟩ = false := fun i => (hb2.frozen hs).trans (hf1 i)
  have HB2 : Hid (Below w.heap.size w w2) := HB1.out.trans (hb2.mono (Nat.le_of_lt hs))
  clear hb2 HN hf1
  go_wp2
  exact bodyPost_ret (v := .agg #[.int .i64 3, .int .u64 M, .string ⟨#[]⟩, .int .i64 0]) (by simp [results, Tryz.results18, go_sem, t0, t1, t2, t3]) rfl ⟨rfl, set41 HB2.out (Nat.le_refl _) _ _ _ _⟩

end Go.Proofs.YthmocdabakkfhaaGreatDoor

/-
  Layer 9: Set, whatever set does.
-/
namespace Go.Proofs.YthmocdabakkfhaaGreatDoor
set_option maxRecDepth 100000
open Go.RowKit Flo

set_option maxHeartbeats 4000000 in
theorem Set_of {w : World} {hb lim used i tb : Nat} {R : Value} {os : List Ob} {Z : Nat → Prop} {x : Ob} (h : Hv w hb lim used R os Z) (hi : os[i]? = some x) (ht : x.tb = some tb) (o : Int) (ho : o = (i : Int) + 1) (K N : Int) (S : ByteArray) (O vK vN : Int) (vS : ByteArray) (vO : Int) (hN2 : U64 N) (hvN : U64 vN) (hko : kok K N = true) (cd : Int) (P : World → Prop) (hset : ∀ w1, Below w.heap.size w w1 → Calls Tryz.prog 51 #[.pointer (some ⟨hb, 0, none⟩), .pointer (some ⟨tb, 0, none⟩), .agg #[.int .i64 (yK K N), .int .u64 (yN K N), .string (yS K N S), .int .i64 (yO K N O)], .agg #[.int .i64 (nK vK), .int .u64 (nN vK vN), .string (nS vK vS), .int .i64 (nO vK vO)]] w1 fun e w' => e = .returned (.int .i64 cd) ∧ P w' ∧ Wx Z w1 w') :
    Calls Tryz.prog 17 #[.pointer (some ⟨hb, 0, none⟩), .int .i64 o, .agg #[.int .i64 K, .int .u64 N, .string S, .int .i64 O], .agg #[.int .i64 vK, .int .u64 vN, .string vS, .int .i64 vO]] w fun e w' => e = .returned (.int .i64 cd) ∧ P w' := by
  have HT : Hid (∀ w', Below w.heap.size w w' → Calls Tryz.prog 21 #[.pointer (some ⟨hb, 0, none⟩), .int .i64 o] w' fun e w2 => e = .returned (.pointer (some ⟨tb, 0, none⟩)) ∧ w2 = w') := fun w' hb' => by
    have := tableOf_hv (h.below hb') o
    rw [show ptrOf os o = some ⟨tb, 0, none⟩ by unfold ptrOf; rw [ho, tabOf_of hi ht]; simp [Ob.ptr, ht]] at this
    exact this
  have HK : Hid (∀ w, Calls Tryz.prog 23 #[.agg #[.int .i64 K, .int .u64 N, .string S, .int .i64 O]] w fun e w' => e = .returned (.tuple #[.agg #[.int .i64 (yK K N), .int .u64 (yN K N), .string (yS K N S), .int .i64 (yO K N O)], .bool (kok K N)]) ∧ Below w.heap.size w w') := fun w => key_any K N S O w hN2
  have HB : Hid (Below w.heap.size w ((w.alloc (.cells #[.int .i64 K, .int .u64 N, .string S, .int .i64 O] 37)).alloc (.cells #[.int .i64 vK, .int .u64 vN, .string vS, .int .i64 vO] 37))) := ((Below.refl _ _).alloc (Nat.le_refl _) _).alloc (by simp) _
  rw [hko] at HK
  have HN : Hid (∀ w, Calls Tryz.prog 22 #[.agg #[.int .i64 vK, .int .u64 vN, .string vS, .int .i64 vO]] w fun e w' => e = .returned (.agg #[.int .i64 (nK vK), .int .u64 (nN vK vN), .string (nS vK vS), .int .i64 (nO vK vO)]) ∧ Below w.heap.size w w') := fun w => normal_any vK vN vS vO w hvN
  have HS : Hid _ := hset
  have HZ : Hid (∀ k, w.heap.size ≤ k → ¬ Z k) := fun k hk c => by have := h.lt k c; omega
  clear h hi ht ho hko hset
  generalize yK K N = YK at *
  generalize yN K N = YN at *
  generalize yS K N S = YS at *
  generalize yO K N O = YO at *
  generalize nK vK = NK at *
  generalize nN vK vN = NN at *
  generalize nS vK vS = NS at *
  generalize nO vK vO = NO at *
  go_enter Tryz.func17, Tryz.ntmps17
  go_wp2_with fail
  refine (HT.out _ HB.out).mono ?_
  rintro e w1 ⟨rfl, rfl⟩
  clear HT
  go_wp2_with fail
  refine (HK.out _).mono ?_
  rintro e w1 ⟨rfl, hb1⟩
  have hk1 := keep4 (b := w.heap.size + 1) (v0 := .int .i64 vK) (v1 := .int .u64 vN) (v2 := .string vS) (v3 := .int .i64 vO) ⟨by go_simp, by go_simp, by go_simp, by go_simp⟩ hb1
  obtain ⟨p0, p1, p2, p3⟩ := hk1
  have HB1 : Hid (Below w.heap.size w w1) := HB.out.trans (hb1.mono (by simp; omega))
  have hsz : w.heap.size + 1 < w1.heap.size := by have := hb1.size; simp at this; omega
  clear hb1 HB HK
  go_wp2_with fail
  go_region_held3 (fun w' => (w'.cell? ⟨w1.heap.size, 0, none⟩ = some (.int .i64 YK) ∧ w'.cell? ⟨w1.heap.size, 1, none⟩ = some (.int .u64 YN) ∧ w'.cell? ⟨w1.heap.size, 2, none⟩ = some (.string YS) ∧ w'.cell? ⟨w1.heap.size, 3, none⟩ = some (.int .i64 YO)) ∧
      w'.cell? ⟨w.heap.size + 1, 0, none⟩ = some (.int .i64 vK) ∧ w'.cell? ⟨w.heap.size + 1, 1, none⟩ = some (.int .u64 vN) ∧ w'.cell? ⟨w.heap.size + 1, 2, none⟩ = some (.string vS) ∧ w'.cell? ⟨w.heap.size + 1, 3, none⟩ = some (.int .i64 vO))
    (first
      | go_keep
      | exact keep8x (by assumption) hx3 (HZ.out _ (by omega)) (HZ.out _ (by omega))
      | exact keep8 (by assumption) hb2)
    (first
      | (go_at_call 22; refine (HN.out _).mono ?_; rintro e w2 ⟨rfl, hb2⟩)
      | (go_at_call 51; refine (HS.out _ (by have h9 := (HB1.out.alloc (Nat.le_of_lt (Nat.lt_of_succ_lt hsz)) _).trans ((below_undrew hb2).mono (by simp; omega)); exact h9)).mono ?_; rintro e w3 ⟨rfl, hsp, hx3⟩; have HSP : Hid _ := hsp; clear hsp))
  go_wp2
  go_ret
  exact ⟨rfl, HSP.out⟩

end Go.Proofs.YthmocdabakkfhaaGreatDoor
