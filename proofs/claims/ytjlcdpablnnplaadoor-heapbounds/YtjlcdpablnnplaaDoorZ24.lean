/-
  HpTo, HpSet3, HpSet4, HpFull, HpInv, HpRv
-/
import Derived.RegionTactic
import Derived.Deep.AppendLies
import Derived.Laws.OwnMore
import Derived.Test.YtjlcdpablnnplaaDoorZ23

/-
  Layer 9: a key's value becomes another, on tables as a whole.
-/
namespace Go.Proofs.YtjlcdpablnnplaaDoor
set_option maxRecDepth 100000
open Go.RowKit Flo

/-- Entries with another value alone. -/
structure Uk (u : En → En) : Prop where
  b : ∀ e, (u e).b = e.b
  K : ∀ e, (u e).K = e.K
  N : ∀ e, (u e).N = e.N
  S : ∀ e, (u e).S = e.S
  O : ∀ e, (u e).O = e.O
  H : ∀ e, (u e).H = e.H
theorem Uk.hd {u : En → En} (h : Uk u) : ∀ l : List En, hd (l.map u) = hd l
  | [] => rfl
  | e :: l => by rw [List.map_cons, Go.Proofs.YtjlcdpablnnplaaDoor.hd, Go.Proofs.YtjlcdpablnnplaaDoor.hd, h.b]
theorem Uk.lk {u : En → En} (h : Uk u) {w : World} {o : Nat} : ∀ {l : List En}, Lk w o l → Lk w o (l.map u)
  | [], _ => trivial
  | e :: l, k => ⟨by rw [h.b, h.hd]; exact k.1, h.lk k.2⟩
theorem Uk.bs {u : En → En} (h : Uk u) (l : List En) : (l.map u).map En.b = l.map En.b := by rw [List.map_map]; exact List.map_congr_left (fun e _ => h.b e)
theorem Uk.hasP {u : En → En} (h : Uk u) (m : Nat) (es : List En) (p : Nat) : hasP m es p ↔ Go.Proofs.YtjlcdpablnnplaaDoor.hasP m (es.map u) p := by
  unfold Go.Proofs.YtjlcdpablnnplaaDoor.hasP
  constructor
  · rintro ⟨e, he, h1, h2⟩
    exact ⟨u e, List.mem_map_of_mem he, by rw [h.K, h.N]; exact h1, by rw [h.K, h.N]; exact h2⟩
  · rintro ⟨f, hf, h1, h2⟩
    obtain ⟨e, he, rfl⟩ := List.mem_map.1 hf
    rw [h.K, h.N] at h1 h2
    exact ⟨e, he, h1, h2⟩
theorem Uk.or {u : En → En} (h : Uk u) {w : World} {tb : Nat} {es : List En} (k : Or w tb es) : Or w tb (es.map u) :=
  ⟨by rw [List.length_map]; exact k.keys, by rw [h.hd]; exact k.first, by rw [← List.map_reverse, h.hd]; exact k.last, h.lk k.behind, by rw [← List.map_reverse]; exact h.lk k.ahead, by rw [h.bs]; exact k.once, fun f hf => by
    obtain ⟨e, he, rfl⟩ := List.mem_map.1 hf
    rw [h.b]; exact k.apart e he⟩
/-- The chains of entries that have other values. -/
theorem Uk.bk {u : En → En} (h : Uk u) {w w' : World} {g n : Nat} {cs : Nat → List En} {es : List En} (k : Bk w g n cs es) (hw : w.heap.size ≤ w'.heap.size) (hg : ∀ j, j < n → w'.cell? ⟨g, j, none⟩ = w.cell? ⟨g, j, none⟩) (h9 : ∀ e ∈ es, w'.cell? ⟨e.b, 9, none⟩ = w.cell? ⟨e.b, 9, none⟩)
    (hen : ∀ e ∈ es, EnC w' (u e)) : Bk w' g n (fun j => (cs j).map u) (es.map u) := by
  have hlk : ∀ l : List En, (∀ e ∈ l, e ∈ es) → Lk w 9 l → Lk w' 9 l := by
    intro l
    induction l with
    | nil => intro _ _; trivial
    | cons e l ih => intro hm hl; exact ⟨(h9 e (hm e List.mem_cons_self)).trans hl.1, ih (fun x hx => hm x (List.mem_cons_of_mem _ hx)) hl.2⟩
  refine ⟨k.pos, k.few, Nat.lt_of_lt_of_le k.lt hw, fun j hj => by rw [h.hd, hg j hj]; exact k.head j hj, fun j hj => h.lk (hlk _ (fun e he => ((k.mem j hj e).1 he).1) (k.chain j hj)), fun j hj f => ?_, fun f hf => ?_, fun f hf => ?_, fun f hf f' hf' a b c d => ?_, fun j hj => ?_, fun f hf f' hf' a => ?_, fun f hf => ?_⟩
  · constructor
    · intro hf
      obtain ⟨e, he, rfl⟩ := List.mem_map.1 hf
      obtain ⟨h1, h2⟩ := (k.mem j hj e).1 he
      exact ⟨List.mem_map_of_mem h1, by rw [h.H]; exact h2⟩
    · rintro ⟨hf, hb⟩
      obtain ⟨e, he, rfl⟩ := List.mem_map.1 hf
      rw [h.H] at hb
      exact List.mem_map_of_mem ((k.mem j hj e).2 ⟨he, hb⟩)
  · obtain ⟨e, he, rfl⟩ := List.mem_map.1 hf
    exact ⟨hen e he, by rw [h.b]; exact Nat.lt_of_lt_of_le (k.lies e he).2 hw⟩
  · obtain ⟨e, he, rfl⟩ := List.mem_map.1 hf
    rw [h.H, h.K, h.N, h.S, h.O]; exact k.hash e he
  · obtain ⟨e, he, rfl⟩ := List.mem_map.1 hf
    obtain ⟨e', he', rfl⟩ := List.mem_map.1 hf'
    rw [h.K, h.K] at a; rw [h.N, h.N] at b; rw [h.S, h.S] at c; rw [h.O, h.O] at d
    rw [k.own e he e' he' a b c d]
  · have hnd := k.once j hj
    have hsub : ∀ e ∈ cs j, e ∈ es := fun e he => ((k.mem j hj e).1 he).1
    refine List.Pairwise.map u ?_ (List.Pairwise.imp_of_mem (S := fun a b => a.b ≠ b.b) (fun {a b} ha hb q c => q (k.block a (hsub a ha) b (hsub b hb) c)) hnd)
    intro a b q c
    exact q (by rw [← h.b a, ← h.b b, c])
  · obtain ⟨e, he, rfl⟩ := List.mem_map.1 hf
    obtain ⟨e', he', rfl⟩ := List.mem_map.1 hf'
    rw [h.b, h.b] at a
    rw [k.block e he e' he' a]
  · obtain ⟨e, he, rfl⟩ := List.mem_map.1 hf
    rw [h.b]; exact k.apart e he

/-- The entry in the block b with the value v, all others as they are. -/
def upV (b : Nat) (v : V4) (e : En) : En := if e.b = b then { e with vK := v.K, vN := v.N, vS := v.S, vO := v.O } else e
theorem upV_uk (b : Nat) (v : V4) : Uk (upV b v) := by
  refine ⟨fun e => ?_, fun e => ?_, fun e => ?_, fun e => ?_, fun e => ?_, fun e => ?_⟩ <;> (unfold upV; split <;> rfl)
def setV (w : World) (b : Nat) (v : V4) : World := (((w.setCell ⟨b, 4, none⟩ (.int .i64 v.K)).setCell ⟨b, 5, none⟩ (.int .u64 v.N)).setCell ⟨b, 6, none⟩ (.string v.S)).setCell ⟨b, 7, none⟩ (.int .i64 v.O)
theorem setV_wr (w : World) (b : Nat) (v : V4) : Wr [(b, 4), (b, 5), (b, 6), (b, 7)] w (setV w b v) :=
  ((((Wr.set w b 4 _).trans (Wr.set _ b 5 _)).trans (Wr.set _ b 6 _)).trans (Wr.set _ b 7 _)).more (fun a ha => by simpa using ha)
theorem setV_en {w : World} {e : En} (h : EnC w e) (v : V4) : EnC (setV w e.b v) (upV e.b v e) := by
  have hw := setV_wr w e.b v
  obtain ⟨h0, h1, h2, h3, h4, h5, h6, h7, h8⟩ := h
  have hn : ∀ o, o < 4 ∨ 7 < o → (e.b, o) ∉ [(e.b, 4), (e.b, 5), (e.b, 6), (e.b, 7)] := fun o ho hm => by
    simp only [List.mem_cons, Prod.mk.injEq, List.not_mem_nil, or_false] at hm; omega
  unfold upV
  rw [if_pos rfl]
  refine ⟨hw.cell (hn 0 (by omega)) h0, hw.cell (hn 1 (by omega)) h1, hw.cell (hn 2 (by omega)) h2, hw.cell (hn 3 (by omega)) h3, ?_, ?_, ?_, ?_, hw.cell (hn 8 (by omega)) h8⟩
  · unfold setV
    rw [World.cell?_setCell_other _ _ _ _ (by simp), World.cell?_setCell_other _ _ _ _ (by simp), World.cell?_setCell_other _ _ _ _ (by simp)]
    exact World.cell?_setCell_same _ _ _ h4
  · unfold setV
    rw [World.cell?_setCell_other _ _ _ _ (by simp), World.cell?_setCell_other _ _ _ _ (by simp)]
    exact World.cell?_setCell_same _ _ _ (by rw [World.cell?_setCell_other _ _ _ _ (by simp)]; exact h5)
  · unfold setV
    rw [World.cell?_setCell_other _ _ _ _ (by simp)]
    exact World.cell?_setCell_same _ _ _ (by rw [World.cell?_setCell_other _ _ _ _ (by simp), World.cell?_setCell_other _ _ _ _ (by simp)]; exact h6)
  · unfold setV
    exact World.cell?_setCell_same _ _ _ (by rw [World.cell?_setCell_other _ _ _ _ (by simp), World.cell?_setCell_other _ _ _ _ (by simp), World.cell?_setCell_other _ _ _ _ (by simp)]; exact h7)
/-- A key that is there has another value. -/
theorem Tv.over {w : World} {tb : Nat} {X : Nat → Prop} {es : List En} {M : V4} {f : En} (h : Tv w tb X es M) (hf : f ∈ es) (v : V4) : Tv (setV w f.b v) tb X (es.map (upV f.b v)) M ∧ Wx X w (setV w f.b v) := by
  have hu := upV_uk f.b v
  have hw := setV_wr w f.b v
  have hA : ∀ k o, (k, o) ∈ [(f.b, 4), (f.b, 5), (f.b, 6), (f.b, 7)] → k = f.b ∧ 4 ≤ o ∧ o ≤ 7 := fun k o hm => by
    simp only [List.mem_cons, Prod.mk.injEq, List.not_mem_nil, or_false] at hm; omega
  have hnk : ∀ k o, k ≠ f.b → (k, o) ∉ [(f.b, 4), (f.b, 5), (f.b, 6), (f.b, 7)] := fun k o hk hm => hk (hA k o hm).1
  have hno : ∀ k o, 8 ≤ o → (k, o) ∉ [(f.b, 4), (f.b, 5), (f.b, 6), (f.b, 7)] := fun k o ho hm => by have := (hA k o hm).2; omega
  have htb : tb ≠ f.b := fun c => h.ord.apart f hf c.symm
  have hs : w.heap.size ≤ (setV w f.b v).heap.size := hw.size
  have hwx : Wx X w (setV w f.b v) := Wx.of hw (fun k o hm => Or.inl ((hA k o hm).1 ▸ (h.ent f hf).1))
  have hen : ∀ e ∈ es, EnC w e → EnC (setV w f.b v) (upV f.b v e) := fun e he k => by
    by_cases c : e.b = f.b
    · rw [← c]; exact setV_en k v
    · unfold upV
      rw [if_neg c]
      exact k.off hw.off (fun o _ => hnk _ _ c)
  refine ⟨⟨h.own, fun k hk => Nat.lt_of_lt_of_le (h.lt k hk) hs, h.no1, fun k o hk => (hw.2.1 k o (h.lt k hk)).trans (h.free k o hk), fun j hj => hw.cell (hnk 1 j (fun c => h.no1 (c ▸ (h.ent f hf).1))) (h.db j hj), h.mt.wr hw (fun i _ => hnk _ _ htb),
    hu.or (h.ord.wr hw (hnk _ _ htb) (hnk _ _ htb) (hnk _ _ htb) (fun e he => ⟨hno _ _ (by omega), hno _ _ (by omega)⟩)), by rw [List.length_map]; exact h.few, fun e he => ?_, fun e he => ?_, ?_⟩, hwx⟩
  · obtain ⟨x, hx, rfl⟩ := List.mem_map.1 he
    rw [hu.N]; exact h.u64 x hx
  · obtain ⟨x, hx, rfl⟩ := List.mem_map.1 he
    rw [hu.b]; exact ⟨(h.ent x hx).1, hw.blk (h.ent x hx).2⟩
  · rcases h.bod with ⟨e0, _⟩ | ⟨g, n, c, m, cs, W, s, t⟩
    · rw [e0] at hf; cases hf
    · have hgf : g ≠ f.b := fun q => t.kb.apart f hf q.symm
      have hcell : ∀ k o u, w.cell? ⟨k, o, none⟩ = some u → (k, o) ∉ [(f.b, 4), (f.b, 5), (f.b, 6), (f.b, 7)] → (setV w f.b v).cell? ⟨k, o, none⟩ = w.cell? ⟨k, o, none⟩ := fun k o u hc hn => (hw.cell hn hc).trans hc.symm
      refine Or.inr ⟨g, n, c, m, _, W, s, hu.bk t.kb hs (fun j hj => hcell g j _ (t.kb.head j hj) (hnk _ _ hgf)) (fun e he => ?_) (fun e he => hen e he (t.kb.lies e he).1), t.kc.wr hw (hnk _ _ htb) (hnk _ _ htb) (fun i => hnk _ _ (fun q => t.ec f hf q.symm)), t.sz.same (fun p _ => hu.hasP m es p), ⟨hw.cell (hnk _ _ htb) t.row.1, fun j => (hw.2.1 g j t.kb.lt).trans (t.row.2 j)⟩,
        by rw [List.length_map]; exact t.full, t.words, t.n4, t.nfew, t.xg, t.xc, t.gt, t.gc, fun e he => ?_⟩
      · have hjf := bk_lt e.H t.kb.pos
        obtain ⟨q, hq⟩ := lkSome (t.kb.chain _ hjf) e ((t.kb.mem _ hjf e).2 ⟨he, rfl⟩)
        exact hcell e.b 9 _ hq (hno _ _ (by omega))
      · obtain ⟨x, hx, rfl⟩ := List.mem_map.1 he
        rw [hu.b]; exact t.ec x hx

end Go.Proofs.YtjlcdpablnnplaaDoor

/-
  Layer 9: set where the key is there.
-/
namespace Go.Proofs.YtjlcdpablnnplaaDoor
set_option maxRecDepth 100000
open Go.RowKit Flo

/-- The heap behind a key that has another value. -/
theorem Hv.overw {w : World} {hb lim used i tb : Nat} {R : Value} {os : List Ob} {Z : Nat → Prop} {x : Ob} {f : En} (h : Hv w hb lim used R os Z) (hi : os[i]? = some x) (ht : x.tb = some tb) (hf : f ∈ x.es) (v : V4) :
    Hv (setV w f.b v) hb lim used R (os.set i { x with es := x.es.map (upV f.b v) }) (Zn Z w.heap.size (setV w f.b v).heap.size) ∧ Wx Z w (setV w f.b v) := by
  have h0 := (h.ob i x hi).tab tb ht
  obtain ⟨k1, k2⟩ := h0.2.1.over hf v
  refine h.put0 (o' := { x with es := x.es.map (upV f.b v) }) hi k2 (fun j hj => Or.inl hj) rfl ⟨fun t e1 => ?_, fun e1 => ?_⟩ (fun j hj => Or.inl hj) (fun j hj => k1.lt j hj) rfl (h.mt i x hi) (by simp only [Ob.wt, List.length_map])
  · have e2 : x.tb = some t := e1
    rw [ht] at e2
    injection e2 with e2
    subst e2
    refine ⟨h0.1, k1, fun e he => ?_⟩
    obtain ⟨y, hy, rfl⟩ := List.mem_map.1 he
    have hu := upV_uk f.b v
    have := h0.2.2 y hy
    unfold keyOk at this ⊢
    rw [hu.K, hu.N, hu.S, hu.O]
    exact this
  · have e2 : x.tb = none := e1
    rw [ht] at e2; cases e2

theorem key_num {e f : En} (he : keyOk e) (hf : keyOk f) (h1 : e.K = 3) (h2 : f.K = 3) : e.S = f.S ∧ e.O = f.O := by
  obtain ⟨_, _, _, a, b⟩ := he
  obtain ⟨_, _, _, c, d⟩ := hf
  rw [h1] at a b
  rw [h2] at c d
  exact ⟨a.symm.trans c, b.symm.trans d⟩
/-- The heap behind a key that goes. -/
theorem Hv.gone {w w5 : World} {hb lim used i tb : Nat} {R : Value} {os : List Ob} {Z : Nat → Prop} {x : Ob} {xo yo : List En} {f : En} {X' : Nat → Prop} (h : Hv w hb lim used R os Z) (hi : os[i]? = some x) (ht : x.tb = some tb) (hes : x.es = xo ++ f :: yo)
    (hT : Tv w5 tb X' (xo ++ yo) x.M) (hW : Wx x.X w w5) (hX' : ∀ k, X' k → x.X k ∨ w.heap.size ≤ k) :
    Hv (w5.setCell ⟨hb, 1, none⟩ (.int .i64 ((used - 1 : Nat) : Int))) hb lim (used - 1) R (os.set i { x with es := xo ++ yo, X := X' }) (Zn Z w.heap.size (w5.setCell ⟨hb, 1, none⟩ (.int .i64 ((used - 1 : Nat) : Int))).heap.size) ∧ Wx Z w (w5.setCell ⟨hb, 1, none⟩ (.int .i64 ((used - 1 : Nat) : Int))) := by
  have h0 := (h.ob i x hi).tab tb ht
  have hge := sum_ge os i x hi
  have hsum := h.sum
  have hwt : x.wt = 1 + x.es.length + x.sl.length := rfl
  have hlen : x.es.length = xo.length + yo.length + 1 := by rw [hes]; simp; omega
  refine h.put (o' := { x with es := xo ++ yo, X := X' }) hi hW (fun j hj => Or.inl hj) rfl ⟨fun t e1 => ?_, fun e1 => ?_⟩ hX' (fun j hj => hT.lt j hj) rfl (h.mt i x hi) ?_ (by have := h.hu; omega)
  · have e2 : x.tb = some t := e1
    rw [ht] at e2
    injection e2 with e2
    subst e2
    refine ⟨h0.1, hT, fun e he => h0.2.2 e ?_⟩
    have he2 : e ∈ xo ++ yo := he
    rw [hes]
    rcases List.mem_append.1 he2 with c | c
    · exact List.mem_append_left _ c
    · exact List.mem_append_right _ (List.mem_cons_of_mem _ c)
  · have e2 : x.tb = none := e1
    rw [ht] at e2; cases e2
  · have : ({ x with es := xo ++ yo, X := X' } : Ob).wt = 1 + (xo.length + yo.length) + x.sl.length := by simp only [Ob.wt, List.length_append]
    omega

/-- What drop needs to know of numbers. -/
theorem Tv.apart_num {w : World} {tb : Nat} {X : Nat → Prop} {xo yo : List En} {f : En} {M : V4} (h : Tv w tb X (xo ++ f :: yo) M) (hk : ∀ e ∈ xo ++ f :: yo, keyOk e) : ∀ g ∈ xo ++ yo, ¬ (f.K = 3 ∧ g.K = 3 ∧ f.N = g.N) := by
  rintro g hg ⟨a, b, c⟩
  have hg2 : g ∈ xo ++ f :: yo := by
    rcases List.mem_append.1 hg with d | d
    · exact List.mem_append_left _ d
    · exact List.mem_append_right _ (List.mem_cons_of_mem _ d)
  obtain ⟨hs, ho⟩ := key_num (hk f (by simp)) (hk g hg2) a b
  rcases h.bod with ⟨e0, _⟩ | ⟨gg, n, cc, m, cs, W, s, t⟩
  · simp at e0
  · have e := t.kb.own f (by simp) g hg2 (a.trans b.symm) c hs ho
    have hnd : (xo ++ f :: yo).Nodup := List.Pairwise.of_map En.b (fun a b q k => q (by rw [k])) h.ord.once
    have hnd2 := List.nodup_append.1 hnd
    rcases List.mem_append.1 hg with d | d
    · exact hnd2.2.2 g d f (by simp) e.symm
    · exact (List.nodup_cons.1 hnd2.2.1).1 (e ▸ d)

/-- What becomes of a heap by a value under a key that is there. -/
def Over (w : World) (hb lim used i : Nat) (R : Value) (os : List Ob) (Z : Nat → Prop) (x : Ob) (f : En) (v : V4) (w' : World) : Prop :=
  Hv w' hb lim used R (os.set i { x with es := x.es.map (upV f.b v) }) (Zn Z w.heap.size w'.heap.size) ∧ Wx Z w w'
def Gone (w : World) (hb lim used i : Nat) (R : Value) (os : List Ob) (Z : Nat → Prop) (x : Ob) (xo yo : List En) (w' : World) : Prop :=
  ∃ X', Hv w' hb lim (used - 1) R (os.set i { x with es := xo ++ yo, X := X' }) (Zn Z w.heap.size w'.heap.size) ∧ Wx Z w w'
theorem Zn.more {w : World} {hb lim used : Nat} {R : Value} {os : List Ob} {Z : Nat → Prop} {a b c : Nat} (h : Hv w hb lim used R os (Zn Z b c)) (hZ : ∀ k, Z k → k < w.heap.size) (hab : a ≤ b) (ha : 1 < a) (hc : c ≤ w.heap.size) (h1 : ¬ Z 1) : Hv w hb lim used R os (Zn Z a c) :=
  ⟨h.c0, h.c1, h.c2, h.hfree, h.row, h.hl, h.hu, h.sum, h.ob, h.mt, fun k hk => by
      rcases hk with c | c
      · exact hZ k c
      · omega,
    fun c => by
      rcases c with c | c
      · exact h1 c
      · omega,
    (by
      rcases h.zh with c | c
      · exact Or.inl c
      · exact Or.inr ⟨by omega, c.2⟩), fun g hg => ⟨by
      rcases (h.zr g hg).1 with c | c
      · exact Or.inl c
      · exact Or.inr ⟨by omega, c.2⟩, (h.zr g hg).2⟩,
    fun j p hp k hk => ⟨by
      rcases (h.zx j p hp k hk).1 with c | c
      · exact Or.inl c
      · exact Or.inr ⟨by omega, c.2⟩, (h.zx j p hp k hk).2⟩, h.xx, h.db⟩

set_option maxHeartbeats 4000000 in
theorem set_over {w : World} {hb lim used i tb : Nat} {R : Value} {os : List Ob} {Z : Nat → Prop} {x : Ob} {f : En} (h : Hv w hb lim used R os Z) (hi : os[i]? = some x) (ht : x.tb = some tb) (K N : Int) (S : ByteArray) (O vK vN : Int) (vS : ByteArray) (vO : Int) (hS : S.size ≤ 9223372036854775807) (hvK : vK ≠ 0) (hsome : ofKey K N S O x.es = some f) :
    Calls Tryd.prog 32 #[.pointer (some ⟨hb, 0, none⟩), .pointer (some ⟨tb, 0, none⟩), .agg #[.int .i64 K, .int .u64 N, .string S, .int .i64 O], .agg #[.int .i64 vK, .int .u64 vN, .string vS, .int .i64 vO]] w fun e w' => e = .returned (.int .i64 0) ∧ Over w hb lim used i R os Z x f ⟨vK, vN, vS, vO⟩ w' := by
  have hfm : f ∈ x.es := List.mem_of_find?_eq_some hsome
  have HB : Hid (Below w.heap.size w ((w.alloc (.cells #[.int .i64 K, .int .u64 N, .string S, .int .i64 O] 35)).alloc (.cells #[.int .i64 vK, .int .u64 vN, .string vS, .int .i64 vO] 35))) := ((Below.refl _ _).alloc (Nat.le_refl _) _).alloc (by simp) _
  have HH : Hid (∀ w', Calls Tryd.prog 37 #[.agg #[.int .i64 K, .int .u64 N, .string S, .int .i64 O]] w' fun e w2 => e = .returned (.int .u64 (hZ K N S O)) ∧ Below w'.heap.size w' w2) := fun w' => hash_any _ _ _ _ w' hS
  have HF : Hid (∀ w', Below w.heap.size w w' → Calls Tryd.prog 49 #[.pointer (some ⟨tb, 0, none⟩), .agg #[.int .i64 K, .int .u64 N, .string S, .int .i64 O], .int .u64 (hZ K N S O)] w' fun e w2 => e = .returned (.pointer (some ⟨f.b, 0, none⟩)) ∧ Below w'.heap.size w' w2) := fun w' hb' => by
    have := tab_find (((h.below hb').ob i x hi).tab tb ht).2.1 K N S O
    rw [hsome] at this
    exact this
  have HQ : Hid (∀ w2, Below w.heap.size w w2 → (EnC w2 f ∧ ∀ o, w2.frozen? ⟨f.b, o, none⟩ = false) ∧ Over w hb lim used i R os Z x f ⟨vK, vN, vS, vO⟩ (setV w2 f.b ⟨vK, vN, vS, vO⟩)) := fun w2 hb2 => by
    have hv := h.below hb2
    have hT := ((hv.ob i x hi).tab tb ht).2.1
    refine ⟨⟨?_, fun o => hT.free f.b o (hT.ent f hfm).1⟩, ?_⟩
    · exact (hT.se.lies f hfm).1
    · obtain ⟨k1, k2⟩ := hv.overw hi ht hfm ⟨vK, vN, vS, vO⟩
      have hs := hb2.size
      have hs2 := k2.size
      exact ⟨Zn.more k1 (fun k hk => by have := h.lt k hk; omega) hs h.two (Nat.le_refl _) h.no1, (Wx.of_below Z hb2).trans k2 (fun k hk => Or.inl hk)⟩
  clear h hi ht hsome hfm
  generalize hZ K N S O = H at *
  go_enter Tryd.func32, Tryd.ntmps32
  go_wp2_with fail
  refine (HH.out _).mono ?_
  rintro e w1 ⟨rfl, hb1⟩
  obtain ⟨p0, p1, p2, p3⟩ := keep4 (b := w.heap.size) (v0 := .int .i64 K) (v1 := .int .u64 N) (v2 := .string S) (v3 := .int .i64 O) ⟨by go_simp, by go_simp, by go_simp, by go_simp⟩ hb1
  have hv1 := keep4 (b := w.heap.size + 1) (v0 := .int .i64 vK) (v1 := .int .u64 vN) (v2 := .string vS) (v3 := .int .i64 vO) ⟨by go_simp, by go_simp, by go_simp, by go_simp⟩ hb1
  have HB1 : Hid (Below w.heap.size w w1) := HB.out.trans (hb1.mono (by simp; omega))
  have HV1 : Hid (_ ∧ _) := hv1
  clear hb1 HB HH hv1
  go_wp2_with fail
  refine (HF.out _ HB1.out).mono ?_
  rintro e w2 ⟨rfl, hb2⟩
  obtain ⟨u0, u1, u2, u3⟩ := keep4 HV1.out hb2
  obtain ⟨⟨⟨_, _, _, _, e4, e5, e6, e7, _⟩, hfz⟩, hov⟩ := HQ.out w2 (HB1.out.trans (hb2.mono HB1.out.size))
  have HO : Hid (Over w hb lim used i R os Z x f ⟨vK, vN, vS, vO⟩ (setV w2 f.b ⟨vK, vN, vS, vO⟩)) := hov
  clear hb2 HB1 HV1 HF HQ hov p0 p1 p2 p3
  go_wp2
  go_ret
  exact ⟨rfl, HO.out⟩

set_option maxHeartbeats 4000000 in
theorem set_drop {w : World} {hb lim used i tb : Nat} {R : Value} {os : List Ob} {Z : Nat → Prop} {x : Ob} {f : En} (h : Hv w hb lim used R os Z) (hi : os[i]? = some x) (ht : x.tb = some tb) (K N : Int) (S : ByteArray) (O vN : Int) (vS : ByteArray) (vO : Int) (hS : S.size ≤ 9223372036854775807) (hsome : ofKey K N S O x.es = some f) (xo yo : List En) (hes : x.es = xo ++ f :: yo) :
    Calls Tryd.prog 32 #[.pointer (some ⟨hb, 0, none⟩), .pointer (some ⟨tb, 0, none⟩), .agg #[.int .i64 K, .int .u64 N, .string S, .int .i64 O], .agg #[.int .i64 0, .int .u64 vN, .string vS, .int .i64 vO]] w fun e w' => e = .returned (.int .i64 0) ∧ Gone w hb lim used i R os Z x xo yo w' := by
  have HB : Hid (Below w.heap.size w ((w.alloc (.cells #[.int .i64 K, .int .u64 N, .string S, .int .i64 O] 35)).alloc (.cells #[.int .i64 0, .int .u64 vN, .string vS, .int .i64 vO] 35))) := ((Below.refl _ _).alloc (Nat.le_refl _) _).alloc (by simp) _
  have HH : Hid (∀ w', Calls Tryd.prog 37 #[.agg #[.int .i64 K, .int .u64 N, .string S, .int .i64 O]] w' fun e w2 => e = .returned (.int .u64 (hZ K N S O)) ∧ Below w'.heap.size w' w2) := fun w' => hash_any _ _ _ _ w' hS
  have HF : Hid (∀ w', Below w.heap.size w w' → Calls Tryd.prog 49 #[.pointer (some ⟨tb, 0, none⟩), .agg #[.int .i64 K, .int .u64 N, .string S, .int .i64 O], .int .u64 (hZ K N S O)] w' fun e w2 => e = .returned (.pointer (some ⟨f.b, 0, none⟩)) ∧ Below w'.heap.size w' w2) := fun w' hb' => by
    have := tab_find (((h.below hb').ob i x hi).tab tb ht).2.1 K N S O
    rw [hsome] at this
    exact this
  have hpos : 1 ≤ used := by
    have hge := sum_ge os i x hi
    have hsum := h.sum
    have hwt : x.wt = 1 + x.es.length + x.sl.length := rfl
    omega
  have HQ : Hid (∀ w2, Below w.heap.size w w2 → Calls Tryd.prog 50 #[.pointer (some ⟨tb, 0, none⟩), .pointer (some ⟨f.b, 0, none⟩)] w2 fun e w5 => e = .returned (.tuple #[]) ∧ w5.cell? ⟨hb, 1, none⟩ = some (.int .i64 (used : Int)) ∧ w5.frozen? ⟨hb, 1, none⟩ = false ∧
      Gone w hb lim used i R os Z x xo yo (w5.setCell ⟨hb, 1, none⟩ (.int .i64 ((used : Int) - 1)))) := fun w2 hb2 => by
    have hv := h.below hb2
    have h0 := (hv.ob i x hi).tab tb ht
    have hT := h0.2.1
    have hk := h0.2.2
    rw [hes] at hT hk
    refine (tab_drop hT (hT.apart_num hk)).mono ?_
    rintro e w5 ⟨rfl, X', k1, k2, k3⟩
    have hnb : ¬ x.X hb := fun c => (h.zx i x hi hb c).2.1 rfl
    obtain ⟨m1, m2⟩ := hv.gone hi ht hes k1 k2 k3
    have hs := hb2.size
    have hs2 := m2.size
    refine ⟨rfl, k2.cell hnb hv.c1, (k2.frozen (hv.lt hb hv.zh) hnb).trans (hv.hfree 1), X', ?_⟩
    rw [show ((used : Int) - 1) = ((used - 1 : Nat) : Int) by omega]
    exact ⟨Zn.more m1 (fun k hk => by have := h.lt k hk; omega) hs h.two (Nat.le_refl _) h.no1, (Wx.of_below Z hb2).trans m2 (fun k hk => Or.inl hk)⟩
  have hu1 : used ≤ 1048576 := by have := h.hl; have := h.hu; omega
  clear h hi ht hsome hes
  generalize hZ K N S O = H at *
  go_enter Tryd.func32, Tryd.ntmps32
  go_wp2_with fail
  refine (HH.out _).mono ?_
  rintro e w1 ⟨rfl, hb1⟩
  obtain ⟨p0, p1, p2, p3⟩ := keep4 (b := w.heap.size) (v0 := .int .i64 K) (v1 := .int .u64 N) (v2 := .string S) (v3 := .int .i64 O) ⟨by go_simp, by go_simp, by go_simp, by go_simp⟩ hb1
  have hv1 := keep4 (b := w.heap.size + 1) (v0 := .int .i64 0) (v1 := .int .u64 vN) (v2 := .string vS) (v3 := .int .i64 vO) ⟨by go_simp, by go_simp, by go_simp, by go_simp⟩ hb1
  have HB1 : Hid (Below w.heap.size w w1) := HB.out.trans (hb1.mono (by simp; omega))
  have HV1 : Hid (_ ∧ _) := hv1
  clear hb1 HB HH hv1
  go_wp2_with fail
  refine (HF.out _ HB1.out).mono ?_
  rintro e w2 ⟨rfl, hb2⟩
  obtain ⟨u0, u1, u2, u3⟩ := keep4 HV1.out hb2
  have HD := HQ.out w2 (HB1.out.trans (hb2.mono HB1.out.size))
  clear hb2 HB1 HV1 HF HQ p0 p1 p2 p3
  go_wp2_with fail
  refine HD.mono ?_
  rintro e w5 ⟨rfl, c1, f1, hg⟩
  have HG : Hid _ := hg
  clear hg HD
  go_wp2
  go_ret
  exact ⟨rfl, HG.out⟩

end Go.Proofs.YtjlcdpablnnplaaDoor

/-
  Layer 9: Set, whatever set does.
-/
namespace Go.Proofs.YtjlcdpablnnplaaDoor
set_option maxRecDepth 100000
open Go.RowKit Flo

set_option maxHeartbeats 4000000 in
theorem Set_of {w : World} {hb lim used i tb : Nat} {R : Value} {os : List Ob} {Z : Nat → Prop} {x : Ob} (h : Hv w hb lim used R os Z) (hi : os[i]? = some x) (ht : x.tb = some tb) (o : Int) (ho : o = (i : Int) + 1) (K N : Int) (S : ByteArray) (O vK vN : Int) (vS : ByteArray) (vO : Int) (hN2 : U64 N) (hvN : U64 vN) (hko : kok K N = true) (cd : Int) (P : World → Prop) (hset : ∀ w1, Below w.heap.size w w1 → Calls Tryd.prog 32 #[.pointer (some ⟨hb, 0, none⟩), .pointer (some ⟨tb, 0, none⟩), .agg #[.int .i64 (yK K N), .int .u64 (yN K N), .string (yS K N S), .int .i64 (yO K N O)], .agg #[.int .i64 (nK vK), .int .u64 (nN vK vN), .string (nS vK vS), .int .i64 (nO vK vO)]] w1 fun e w' => e = .returned (.int .i64 cd) ∧ P w' ∧ Wx Z w1 w') :
    Calls Tryd.prog 12 #[.pointer (some ⟨hb, 0, none⟩), .int .i64 o, .agg #[.int .i64 K, .int .u64 N, .string S, .int .i64 O], .agg #[.int .i64 vK, .int .u64 vN, .string vS, .int .i64 vO]] w fun e w' => e = .returned (.int .i64 cd) ∧ P w' := by
  have HT : Hid (∀ w', Below w.heap.size w w' → Calls Tryd.prog 30 #[.pointer (some ⟨hb, 0, none⟩), .int .i64 o] w' fun e w2 => e = .returned (.pointer (some ⟨tb, 0, none⟩)) ∧ w2 = w') := fun w' hb' => by
    have := tableOf_hv (h.below hb') o
    rw [show ptrOf os o = some ⟨tb, 0, none⟩ by unfold ptrOf; rw [ho, tabOf_of hi ht]; simp [Ob.ptr, ht]] at this
    exact this
  have HK : Hid (∀ w, Calls Tryd.prog 31 #[.agg #[.int .i64 K, .int .u64 N, .string S, .int .i64 O]] w fun e w' => e = .returned (.tuple #[.agg #[.int .i64 (yK K N), .int .u64 (yN K N), .string (yS K N S), .int .i64 (yO K N O)], .bool (kok K N)]) ∧ Below w.heap.size w w') := fun w => key_any K N S O w hN2
  have HB : Hid (Below w.heap.size w ((w.alloc (.cells #[.int .i64 K, .int .u64 N, .string S, .int .i64 O] 35)).alloc (.cells #[.int .i64 vK, .int .u64 vN, .string vS, .int .i64 vO] 35))) := ((Below.refl _ _).alloc (Nat.le_refl _) _).alloc (by simp) _
  rw [hko] at HK
  have HN : Hid (∀ w, Calls Tryd.prog 33 #[.agg #[.int .i64 vK, .int .u64 vN, .string vS, .int .i64 vO]] w fun e w' => e = .returned (.agg #[.int .i64 (nK vK), .int .u64 (nN vK vN), .string (nS vK vS), .int .i64 (nO vK vO)]) ∧ Below w.heap.size w w') := fun w => normal_any vK vN vS vO w hvN
  have HS : Hid _ := hset
  have HZ : Hid (∀ k, w.heap.size ≤ k → ¬ Z k) := fun k hk c => by have := h.lt k c; omega
  clear h hi ht ho hko hset
  generalize yK K N = YK at *
  generalize yN K N = YN at *
  generalize yS K N S = YS at *
  generalize yO K N O = YO at *
  generalize nK vK = NK at *
  generalize nN vK vN = NN at *
  generalize nS vK vS = NS at *
  generalize nO vK vO = NO at *
  go_enter Tryd.func12, Tryd.ntmps12
  go_wp2_with fail
  refine (HT.out _ HB.out).mono ?_
  rintro e w1 ⟨rfl, rfl⟩
  clear HT
  go_wp2_with fail
  refine (HK.out _).mono ?_
  rintro e w1 ⟨rfl, hb1⟩
  have hk1 := keep4 (b := w.heap.size + 1) (v0 := .int .i64 vK) (v1 := .int .u64 vN) (v2 := .string vS) (v3 := .int .i64 vO) ⟨by go_simp, by go_simp, by go_simp, by go_simp⟩ hb1
  obtain ⟨p0, p1, p2, p3⟩ := hk1
  have HB1 : Hid (Below w.heap.size w w1) := HB.out.trans (hb1.mono (by simp; omega))
  have hsz : w.heap.size + 1 < w1.heap.size := by have := hb1.size; simp at this; omega
  clear hb1 HB HK
  go_wp2_with fail
  go_region_held3 (fun w' => (w'.cell? ⟨w1.heap.size, 0, none⟩ = some (.int .i64 YK) ∧ w'.cell? ⟨w1.heap.size, 1, none⟩ = some (.int .u64 YN) ∧ w'.cell? ⟨w1.heap.size, 2, none⟩ = some (.string YS) ∧ w'.cell? ⟨w1.heap.size, 3, none⟩ = some (.int .i64 YO)) ∧
      w'.cell? ⟨w.heap.size + 1, 0, none⟩ = some (.int .i64 vK) ∧ w'.cell? ⟨w.heap.size + 1, 1, none⟩ = some (.int .u64 vN) ∧ w'.cell? ⟨w.heap.size + 1, 2, none⟩ = some (.string vS) ∧ w'.cell? ⟨w.heap.size + 1, 3, none⟩ = some (.int .i64 vO))
    (first
      | go_keep
      | exact keep8x (by assumption) hx3 (HZ.out _ (by omega)) (HZ.out _ (by omega))
      | exact keep8 (by assumption) hb2)
    (first
      | (go_at_call 33; refine (HN.out _).mono ?_; rintro e w2 ⟨rfl, hb2⟩)
      | (go_at_call 32; refine (HS.out _ (by have h9 := (HB1.out.alloc (Nat.le_of_lt (Nat.lt_of_succ_lt hsz)) _).trans ((below_undrew hb2).mono (by simp; omega)); exact h9)).mono ?_; rintro e w3 ⟨rfl, hsp, hx3⟩; have HSP : Hid _ := hsp; clear hsp))
  go_wp2
  go_ret
  exact ⟨rfl, HSP.out⟩

/-- What is there of a key: nothing, or the entry, and what stands ahead of it and behind. -/
theorem ofKey_split {K N : Int} {S : ByteArray} {O : Int} {es : List En} {f : En} (h : ofKey K N S O es = some f) : ∃ xo yo, es = xo ++ f :: yo := List.append_of_mem (List.mem_of_find?_eq_some h)

end Go.Proofs.YtjlcdpablnnplaaDoor

/-
  Layer 9: set where there is no room.
-/
namespace Go.Proofs.YtjlcdpablnnplaaDoor
set_option maxRecDepth 100000
open Go.RowKit Flo

set_option maxHeartbeats 4000000 in
theorem set_full {w : World} {hb lim used i tb : Nat} {R : Value} {os : List Ob} {Z : Nat → Prop} {x : Ob} (h : Hv w hb lim used R os Z) (hi : os[i]? = some x) (ht : x.tb = some tb) (K N : Int) (S : ByteArray) (O vK vN : Int) (vS : ByteArray) (vO : Int) (hS : S.size ≤ 9223372036854775807) (hvK : vK ≠ 0) (hnone : ofKey K N S O x.es = none) (hlt : lim ≤ used) :
    Calls Tryd.prog 32 #[.pointer (some ⟨hb, 0, none⟩), .pointer (some ⟨tb, 0, none⟩), .agg #[.int .i64 K, .int .u64 N, .string S, .int .i64 O], .agg #[.int .i64 vK, .int .u64 vN, .string vS, .int .i64 vO]] w fun e w' => e = .returned (.int .i64 2) ∧ Below w.heap.size w w' := by
  have HB : Hid (Below w.heap.size w ((w.alloc (.cells #[.int .i64 K, .int .u64 N, .string S, .int .i64 O] 35)).alloc (.cells #[.int .i64 vK, .int .u64 vN, .string vS, .int .i64 vO] 35))) := ((Below.refl _ _).alloc (Nat.le_refl _) _).alloc (by simp) _
  have HH : Hid (∀ w', Calls Tryd.prog 37 #[.agg #[.int .i64 K, .int .u64 N, .string S, .int .i64 O]] w' fun e w2 => e = .returned (.int .u64 (hZ K N S O)) ∧ Below w'.heap.size w' w2) := fun w' => hash_any _ _ _ _ w' hS
  have HF : Hid (∀ w', Below w.heap.size w w' → Calls Tryd.prog 49 #[.pointer (some ⟨tb, 0, none⟩), .agg #[.int .i64 K, .int .u64 N, .string S, .int .i64 O], .int .u64 (hZ K N S O)] w' fun e w2 => e = .returned (.pointer none) ∧ Below w'.heap.size w' w2) := fun w' hb' => by
    have := tab_find (((h.below hb').ob i x hi).tab tb ht).2.1 K N S O
    rw [hnone] at this
    exact this
  have HL : Hid (∀ w', Below w.heap.size w w' → Calls Tryd.prog 28 #[.pointer (some ⟨hb, 0, none⟩)] w' fun e w2 => e = .returned (.int .i64 ((lim : Int) - used)) ∧ ∃ q, w2 = w'.drewN q) := fun w' hb' => by
    have h' := h.below hb'
    exact left_any hb lim used w' h'.c0 h'.c1 ⟨by omega, by have := h.hl; omega⟩ ⟨by omega, by have := h.hl; have := h.hu; omega⟩
  have hlt2 : ((lim : Int) - (used : Int) < 1) := by omega
  clear h hi ht hnone hlt
  generalize hZ K N S O = H at *
  go_enter Tryd.func32, Tryd.ntmps32
  go_wp2_with fail
  refine (HH.out _).mono ?_
  rintro e w1 ⟨rfl, hb1⟩
  have hk1 := keep4 (b := w.heap.size) (v0 := .int .i64 K) (v1 := .int .u64 N) (v2 := .string S) (v3 := .int .i64 O) ⟨by go_simp, by go_simp, by go_simp, by go_simp⟩ hb1
  have hv1 := keep4 (b := w.heap.size + 1) (v0 := .int .i64 vK) (v1 := .int .u64 vN) (v2 := .string vS) (v3 := .int .i64 vO) ⟨by go_simp, by go_simp, by go_simp, by go_simp⟩ hb1
  have HB1 : Hid (Below w.heap.size w w1) := HB.out.trans (hb1.mono (by simp; omega))
  obtain ⟨p0, p1, p2, p3⟩ := hk1
  have HV1 : Hid (_ ∧ _) := hv1
  have HK1 : Hid (_ ∧ _ ∧ _ ∧ _) := ⟨p0, p1, p2, p3⟩
  clear hb1 HB HH hv1
  go_wp2_with fail
  refine (HF.out _ HB1.out).mono ?_
  rintro e w2 ⟨rfl, hb2⟩
  obtain ⟨q0, q1, q2, q3⟩ := keep4 HK1.out hb2
  obtain ⟨u0, u1, u2, u3⟩ := keep4 HV1.out hb2
  have HB2 : Hid (Below w.heap.size w w2) := HB1.out.trans (hb2.mono HB1.out.size)
  clear hb2 HB1 HK1 HV1 HF p0 p1 p2 p3
  go_wp2_with fail
  refine (HL.out _ HB2.out).mono ?_
  rintro e w3 ⟨rfl, q, rfl⟩
  clear HL
  have HBD : Hid (Below w.heap.size w (w2.drewN q)) := HB2.out.trans ((hp_drewN w2 q).mono HB2.out.size)
  clear HB2
  go_wp2
  go_ret
  exact ⟨rfl, HBD.out⟩

end Go.Proofs.YtjlcdpablnnplaaDoor

/-
  A region that draws its order: what holds whatever has come up so far, shown once for each operation.
-/
namespace Go.Proofs.YtjlcdpablnnplaaDoor
set_option maxRecDepth 100000

/-- Behind the operation i. -/
def Later (L : Nat → Bool) (i : Nat) : Nat → Bool := fun j => if j = i then true else L j

theorem miss_set : ∀ (l : List Bool) (i : Nat), l[i]? = some false → ((l.set i true).filter (! ·)).length + 1 = (l.filter (! ·)).length
  | [], i, h => by simp at h
  | b :: l, 0, h => by
    simp only [List.getElem?_cons_zero, Option.some.injEq] at h
    subst h
    simp
  | b :: l, i + 1, h => by
    rw [List.getElem?_cons_succ] at h
    have := miss_set l i h
    cases b <;> simp <;> omega

theorem wpAny_inv {P : Program} {md : Region.Mode} {ops : Array Oper} {Q : Exit → Act → World → Prop} {J : (Nat → Bool) → Act → World → Prop}
    (hdag : ∀ i o, ops[i]? = some o → ∀ e ∈ o.after, Region.binds md e = true → e.on < i)
    (hstep : ∀ L a w i o, J L a w → ops[i]? = some o → L i = false → (∀ e ∈ o.after, Region.binds md e = true → L e.on = true) → wpOp P ops Q i (J (Later L i)) a w)
    (hend : ∀ L a w, (∀ i, i < ops.size → L i = true) → J L a w → Q .normal a w) :
    ∀ (fuel : Nat) (listed : Array Bool) (a : Act) (w : World), listed.size = ops.size → (listed.toList.filter (! ·)).length ≤ fuel → J (fun j => listed.getD j false) a w → wpAny P md ops Q fuel listed a w := by
  have hall : ∀ (listed : Array Bool), listed.size = ops.size → Region.ready md ops listed = [] → ∀ i, i < ops.size → listed.getD i false = true := by
    intro listed hs hr i
    induction i using Nat.strongRecOn with
    | _ i ih =>
      intro hi
      cases hc : listed.getD i false with
      | true => rfl
      | false =>
        exfalso
        have hm : i ∈ Region.ready md ops listed := by
          rw [mem_ready]
          refine ⟨?_, ops[i], by simp [hi], fun e he hb => ?_⟩
          · have : i < listed.size := by omega
            simp [this] at hc ⊢
            exact hc
          · have hlt := hdag i ops[i] (by simp [hi]) e he hb
            exact ih e.on hlt (by omega)
        rw [hr] at hm
        cases hm
  intro fuel
  induction fuel with
  | zero =>
    intro listed a w hs hn hJ
    have ht : ∀ i, i < ops.size → listed.getD i false = true := by
      intro i hi
      have h0 : (listed.toList.filter (! ·)) = [] := List.length_eq_zero_iff.1 (by omega)
      rw [List.filter_eq_nil_iff] at h0
      have hi2 : i < listed.size := by omega
      have := h0 listed[i] (by simp)
      simp [hi2]
      simpa using this
    refine ⟨?_, hend _ a w ht hJ⟩
    unfold Region.ready
    rw [List.filter_eq_nil_iff]
    intro i hi
    rw [List.mem_range] at hi
    have := ht i hi
    have hi2 : i < listed.size := by omega
    simp [hi2] at this ⊢
    intro h
    rw [this] at h
    cases h
  | succ fuel ih =>
    intro listed a w hs hn hJ
    refine ⟨fun hr => hend _ a w (hall listed hs hr) hJ, fun i hi => ?_⟩
    obtain ⟨h0, o, ho, hdep⟩ := mem_ready.1 hi
    have hlt : i < ops.size := (Array.getElem?_eq_some_iff.1 ho).1
    have hlt2 : i < listed.size := by omega
    have hLi : listed.getD i false = false := by simp [hlt2] at h0 ⊢; exact h0
    refine wpOp_mono (fun a' w' hJ' => ?_) (hstep _ a w i o hJ ho hLi hdep)
    refine ih _ a' w' (by simpa using hs) ?_ ?_
    · have := miss_set listed.toList i (by simp [hlt2] at h0 ⊢; exact h0)
      rw [Array.toList_setIfInBounds]
      omega
    · have e : (fun j => (listed.setIfInBounds i true).getD j false) = Later (fun j => listed.getD j false) i := by
        funext j
        unfold Later
        by_cases c : j = i
        · subst c
          simp [hlt2]
        · rw [if_neg c, getD_set_ne false (fun h => c h.symm)]
      rw [e]
      exact hJ'

/-- Values laid into slots. -/
def puts (a : Act) : List Nat → List Value → Act
  | d :: ds, v :: vs => puts (a.put (some d) v) ds vs
  | _, _ => a
def slotsOf (a : Act) (ds : List Nat) : List Value := ds.map fun d => a.tmps.getD d undef
theorem put_self (a : Act) (d : Nat) : a.put (some d) (a.tmps.getD d undef) = a := by
  unfold Act.put
  simp only
  congr 1
  apply Array.ext_getElem?
  intro i
  by_cases c : d = i
  · subst c
    rcases Nat.lt_or_ge d a.tmps.size with h | h
    · simp [h]
    · simp [h]
  · rw [Array.getElem?_setIfInBounds_ne c]
theorem puts_self (a : Act) : ∀ ds : List Nat, puts a ds (slotsOf a ds) = a
  | [] => rfl
  | d :: ds => by
    show puts (a.put (some d) (a.tmps.getD d undef)) ds (slotsOf a ds) = a
    rw [put_self]
    exact puts_self a ds

/-- One operation, whatever has come up so far. -/
def StepAt (P : Program) (ops : Array Oper) (Q : Exit → Act → World → Prop) (a : Act) (ds : List Nat) (J : (Nat → Bool) → List Value → World → Prop) (i : Nat) (o : Oper) : Prop :=
  ∀ (L : Nat → Bool) (vs : List Value) (w : World), J L vs w → L i = false → (∀ e ∈ o.after, Region.binds .any e = true → L e.on = true) →
    ∀ K' : Act → World → Prop, (∀ vs' w', J (Later L i) vs' w' → K' (puts a ds vs') w') → if Region.wanted o (yielded ops (puts a ds vs).tmps) = true then Oper.wp P o (puts a ds vs) w K' Q else K' ((puts a ds vs).put o.dst undef) w
def StepAll (P : Program) (ops : Array Oper) (Q : Exit → Act → World → Prop) (a : Act) (ds : List Nat) (J : (Nat → Bool) → List Value → World → Prop) : Nat → List Oper → Prop
  | _, [] => True
  | i, o :: l => StepAt P ops Q a ds J i o ∧ StepAll P ops Q a ds J (i + 1) l
theorem StepAll.get {P : Program} {ops : Array Oper} {Q : Exit → Act → World → Prop} {a : Act} {ds : List Nat} {J : (Nat → Bool) → List Value → World → Prop} : ∀ {l : List Oper} {k : Nat}, StepAll P ops Q a ds J k l → ∀ {i : Nat} {o : Oper}, l[i]? = some o → StepAt P ops Q a ds J (k + i) o
  | [], _, _, i, o, ho => by simp at ho
  | p :: l, k, h, 0, o, ho => by
    simp only [List.getElem?_cons_zero, Option.some.injEq] at ho
    subst ho
    exact h.1
  | p :: l, k, h, i + 1, o, ho => by
    rw [List.getElem?_cons_succ] at ho
    have := h.2.get ho
    rw [show k + (i + 1) = k + 1 + i by omega]
    exact this
def dagL : Nat → List Oper → Bool
  | _, [] => true
  | i, o :: l => (o.after.all fun e => decide (e.on < i)) && dagL (i + 1) l
theorem dagL.get : ∀ {l : List Oper} {k : Nat}, dagL k l = true → ∀ {i : Nat} {o : Oper}, l[i]? = some o → ∀ e ∈ o.after, e.on < k + i
  | [], _, _, i, o, ho => by simp at ho
  | p :: l, k, h, 0, o, ho => by
    simp only [List.getElem?_cons_zero, Option.some.injEq] at ho
    subst ho
    unfold dagL at h
    rw [Bool.and_eq_true] at h
    intro e he
    have := Array.all_eq_true_iff_forall_mem.1 h.1 e he
    simpa using this
  | p :: l, k, h, i + 1, o, ho => by
    rw [List.getElem?_cons_succ] at ho
    unfold dagL at h
    rw [Bool.and_eq_true] at h
    intro e he
    have := dagL.get h.2 ho e he
    omega

theorem wp_region_inv {P : Program} {id : Nat} {l : List Oper} {Q : Exit → Act → World → Prop} {a : Act} {w : World} (hm : P.follows .mixedOrders = true) (ds : List Nat) (J : (Nat → Bool) → List Value → World → Prop)
    (hdag : dagL 0 l = true) (h0 : J (fun _ => false) (slotsOf a ds) w.drew) (hstep : StepAll P l.toArray Q a ds J 0 l) (hend : ∀ L vs w', (∀ i, i < l.length → L i = true) → J L vs w' → Q .normal (puts a ds vs) w') :
    (Code.region id l.toArray true).wp P Q a w := by
  refine wp_region_any hm ?_
  refine wpAny_inv (J := fun L a' w' => ∃ vs, a' = puts a ds vs ∧ J L vs w') ?_ ?_ ?_ _ _ a _ (by simp) (by simp) ⟨_, (puts_self a ds).symm, ?_⟩
  · intro i o ho e he _
    have := dagL.get hdag (i := i) (o := o) (by simpa using ho) e he
    omega
  · rintro L a' w' i o ⟨vs, rfl, hJ⟩ ho hL hdep
    refine wpOp_step ho (fun K' hK => ?_)
    have := hstep.get (i := i) (o := o) (by simpa using ho)
    rw [Nat.zero_add] at this
    exact this L vs w' hJ hL hdep K' (fun vs' w2 hj => hK _ _ ⟨vs', rfl, hj⟩)
  · rintro L a' w' hall ⟨vs, rfl, hJ⟩
    exact hend L vs w' (by simpa using hall) hJ
  · have e : (fun j => (Array.replicate l.toArray.size false).getD j false) = fun _ => false := by
      funext j
      rcases Nat.lt_or_ge j l.length with c | c
      · simp [c]
      · simp [c]
    rw [e]
    exact h0

/-! ### append of what can be read to a row of one's own -/

/-- A slice that can be read: m elements, with these cells. -/
def Src (w : World) (size : Nat) (v : Value) (m : Nat) (xs : List Value) : Prop :=
  (v = .slice none 0 0 ∧ m = 0 ∧ xs = []) ∨ ∃ ad c, v = .slice (some ad) m c ∧ xs.length = m * size ∧ (∀ j u, xs[j]? = some u → w.cell? (ad.add j) = some u) ∧ ∀ u ∈ xs, u.oneCell' = true

theorem owns_form {w : World} {base : Nat} {e : TypeId} {size : Nat} {v : Value} {n : Nat} {xs : List Value} (h : w.ownsRow base e size v n xs) : ∃ a c, v = .slice a n c := by
  rcases h.2 with ⟨rfl, rfl⟩ | ⟨g, cap, cur, rfl, _⟩
  · exact ⟨_, _, rfl⟩
  · exact ⟨_, _, rfl⟩
theorem wp_append_src {P : Program} (w : World) {o : Oper} {a : Act} {K : Act → World → Prop} {Q : Exit → Act → World → Prop} (s x : Operand) (t : TypeId)
    (ho : o.op = .call { callee := .builtin .append, args := #[s, x], argTypes := #[t, t] })
    (base : Nat) (e : TypeId) (i : TypeInfo) (z : Value) (size bytes : Nat) (ht : P.underlying t = some (.slice e)) (hi : P.info? e = some i) (hz : i.zero = some z)
    (hsize : i.size = size) (hby : i.bytes = bytes) (hzs : z.cells.size = size) (hsz : 0 < size)
    (v : Value) (n : Nat) (xs : List Value) (hs : a.eval s = v) (hown : w.ownsRow base e size v n xs)
    (xv : Value) (m : Nat) (news : List Value) (hx : a.eval x = xv) (hsrc : Src w size xv m news)
    (h63 : n + m ≤ maxLen) (hbytes : (n + m) * bytes ≤ 140737488355328) (hbase : base ≤ w.heap.size)
    (h : ∀ a' c' w', w'.ownsRow base e size (.slice a' (n + m) c') (n + m) (xs ++ news) → w.grownBy w' v.ownBlock → ((Value.slice a' (n + m) c').ownBlock = v.ownBlock ∨ (Value.slice a' (n + m) c').ownBlock = some w.heap.size) → K (a.put o.dst (.slice a' (n + m) c')) w') :
    Oper.wp P o a w K Q := by
  rcases hsrc with ⟨rfl, rfl, rfl⟩ | ⟨ad, c, rfl, hl, hnews, h1⟩
  · have hr := run_append_owned_none (P := P) (w := w) base t o.type e i size ht hi v n xs hown
    obtain ⟨a', c', rfl⟩ := owns_form hown
    unfold Oper.wp execOp
    simp only [ho, resolve, invoke, builtin, Sem.run_bind, Sem.run_pure, Result.andThen_ok, List.map_toArray, List.map_cons, List.map_nil, hs, hx, hr]
    exact h a' c' w (by simpa using hown) ⟨rfl, rfl, rfl, Nat.le_refl _, fun _ _ _ => rfl⟩ (Or.inl rfl)
  · obtain ⟨v', w', hr, h2, h3, _, h5⟩ := run_append_own_at (P := P) w base t o.type e i z size bytes ht hi hz hsize hby hzs hsz v n xs hown ad m c news hl hnews h1 h63 hbytes hbase
    obtain ⟨a', c', rfl⟩ := owns_form h2
    unfold Oper.wp execOp
    simp only [ho, resolve, invoke, builtin, Sem.run_bind, Sem.run_pure, Result.andThen_ok, List.map_toArray, List.map_cons, List.map_nil, hs, hx, hr]
    exact h a' c' w' h2 h3 h5
theorem step_append_src {P : Program} (w : World) {ops : Array Oper} {o : Oper} {a : Act} {K : Act → World → Prop} {Q : Exit → Act → World → Prop} {E : Prop} (hgd : o.guard = none) (s x : Operand) (t : TypeId)
    (ho : o.op = .call { callee := .builtin .append, args := #[s, x], argTypes := #[t, t] })
    (base : Nat) (e : TypeId) (i : TypeInfo) (z : Value) (size bytes : Nat) (ht : P.underlying t = some (.slice e)) (hi : P.info? e = some i) (hz : i.zero = some z)
    (hsize : i.size = size) (hby : i.bytes = bytes) (hzs : z.cells.size = size) (hsz : 0 < size)
    (v : Value) (n : Nat) (xs : List Value) (hs : a.eval s = v) (hown : w.ownsRow base e size v n xs)
    (xv : Value) (m : Nat) (news : List Value) (hx : a.eval x = xv) (hsrc : Src w size xv m news)
    (h63 : n + m ≤ maxLen) (hbytes : (n + m) * bytes ≤ 140737488355328) (hbase : base ≤ w.heap.size)
    (h : ∀ a' c' w', w'.ownsRow base e size (.slice a' (n + m) c') (n + m) (xs ++ news) → w.grownBy w' v.ownBlock → ((Value.slice a' (n + m) c').ownBlock = v.ownBlock ∨ (Value.slice a' (n + m) c').ownBlock = some w.heap.size) → K (a.put o.dst (.slice a' (n + m) c')) w') :
    if Region.wanted o (yielded ops a.tmps) = true then Oper.wp P o a w K Q else E := by
  have hw : Region.wanted o (yielded ops a.tmps) = true := by simp [Region.wanted, hgd]
  rw [if_pos hw]
  exact wp_append_src w s x t ho base e i z size bytes ht hi hz hsize hby hzs hsz v n xs hs hown xv m news hx hsrc h63 hbytes hbase h
theorem wpList_append_src {P : Program} (w : World) {ops : Array Oper} {rest : List Oper} {o : Oper} {a : Act} {Q : Exit → Act → World → Prop} (hgd : o.guard = none) (s x : Operand) (t : TypeId)
    (ho : o.op = .call { callee := .builtin .append, args := #[s, x], argTypes := #[t, t] })
    (base : Nat) (e : TypeId) (i : TypeInfo) (z : Value) (size bytes : Nat) (ht : P.underlying t = some (.slice e)) (hi : P.info? e = some i) (hz : i.zero = some z)
    (hsize : i.size = size) (hby : i.bytes = bytes) (hzs : z.cells.size = size) (hsz : 0 < size)
    (v : Value) (n : Nat) (xs : List Value) (hs : a.eval s = v) (hown : w.ownsRow base e size v n xs)
    (xv : Value) (m : Nat) (news : List Value) (hx : a.eval x = xv) (hsrc : Src w size xv m news)
    (h63 : n + m ≤ maxLen) (hbytes : (n + m) * bytes ≤ 140737488355328) (hbase : base ≤ w.heap.size)
    (h : ∀ a' c' w', w'.ownsRow base e size (.slice a' (n + m) c') (n + m) (xs ++ news) → w.grownBy w' v.ownBlock → ((Value.slice a' (n + m) c').ownBlock = v.ownBlock ∨ (Value.slice a' (n + m) c').ownBlock = some w.heap.size) → wpList P ops Q rest (a.put o.dst (.slice a' (n + m) c')) w') : wpList P ops Q (o :: rest) a w :=
  wpList_plain hgd fun _ hK => wp_append_src w s x t ho base e i z size bytes ht hi hz hsize hby hzs hsz v n xs hs hown xv m news hx hsrc h63 hbytes hbase fun a' c' w' h2 h3 h4 => hK _ _ (h a' c' w' h2 h3 h4)
theorem Src.of_owns {w : World} {base : Nat} {e : TypeId} {size : Nat} {v : Value} {n : Nat} {xs : List Value} (h : w.ownsRow base e size v n xs) (h1 : ∀ u ∈ xs, u.oneCell' = true) : Src w size v n xs := by
  rcases h.2 with ⟨rfl, rfl⟩ | ⟨g, cap, cur, rfl, _⟩
  · refine Or.inl ⟨rfl, rfl, List.length_eq_zero_iff.1 (by rw [h.1]; omega)⟩
  · refine Or.inr ⟨⟨g, 0, none⟩, cap, rfl, h.1, fun j u hu => ?_, h1⟩
    have hj : j < xs.length := by
      rcases Nat.lt_or_ge j xs.length with c | c
      · exact c
      · rw [List.getElem?_eq_none c] at hu; cases hu
    have hadd : (⟨g, 0, none⟩ : Addr).add j = ⟨g, j, none⟩ := by unfold Addr.add; split <;> simp_all
    rw [hadd, h.cellAt j (by rw [← h.1]; exact hj)]
    exact hu
theorem Src.stay {w w' : World} {size : Nat} {v : Value} {n : Nat} {xs : List Value} (h : Src w size v n xs) (hc : ∀ a u, w.cell? a = some u → (∀ g, v.ownBlock = some g → a.block = g) → w'.cell? a = some u) : Src w' size v n xs := by
  rcases h with h | ⟨ad, c, rfl, h1, h2, h3⟩
  · exact Or.inl h
  · refine Or.inr ⟨ad, c, rfl, h1, fun j u hu => hc _ u (h2 j u hu) (fun g hg => ?_), h3⟩
    have e : ad.block = g := by simpa [Value.ownBlock] using hg
    unfold Addr.add
    split <;> exact e

end Go.Proofs.YtjlcdpablnnplaaDoor

/-
  Layer 9: the reference's heap: rows of objects by lists.
-/
namespace Go.Proofs.YtjlcdpablnnplaaDoor
set_option maxRecDepth 100000
open Go.RowKit Flo

/-! ### rows of values -/
def V4.cells (v : V4) : List Value := [.int .i64 v.K, .int .u64 v.N, .string v.S, .int .i64 v.O]
def vC (l : List V4) : List Value := l.flatMap V4.cells
theorem vC_length : ∀ l : List V4, (vC l).length = l.length * 4
  | [] => rfl
  | v :: l => by
    have := vC_length l
    unfold vC at *
    rw [List.flatMap_cons, List.length_append, this]
    simp [V4.cells]; omega
theorem vC_append (l m : List V4) : vC (l ++ m) = vC l ++ vC m := by unfold vC; simp
theorem vC_at : ∀ (l : List V4) (i : Nat) (v : V4), l[i]? = some v → ∀ j, j < 4 → (vC l)[i * 4 + j]? = v.cells[j]?
  | [], i, v, h, j, _ => by simp at h
  | p :: l, 0, v, h, j, hj => by
    simp only [List.getElem?_cons_zero, Option.some.injEq] at h
    subst h
    unfold vC
    rw [List.flatMap_cons, List.getElem?_append_left (by simp [V4.cells]; omega)]
    simp
  | p :: l, i + 1, v, h, j, hj => by
    rw [List.getElem?_cons_succ] at h
    have := vC_at l i v h j hj
    unfold vC at *
    have hl : p.cells.length = 4 := rfl
    rw [List.flatMap_cons, List.getElem?_append_right (by rw [hl]; omega), hl, show (i + 1) * 4 + j - 4 = i * 4 + j by omega]
    exact this
theorem vC_one (l : List V4) : ∀ u ∈ vC l, u.oneCell' = true := by
  intro u hu
  unfold vC at hu
  obtain ⟨v, _, hv⟩ := List.mem_flatMap.1 hu
  simp only [V4.cells, List.mem_cons, List.not_mem_nil, or_false] at hv
  rcases hv with rfl | rfl | rfl | rfl <;> rfl
/-- The slice v, whose block is its own, holds the values l. -/
def Vr (w : World) (v : Value) (l : List V4) : Prop := w.ownsRow 0 35 4 v l.length (vC l)
theorem Vr.form {w : World} {v : Value} {l : List V4} (h : Vr w v l) : ∃ a cap, v = .slice a l.length cap ∧ (0 < l.length → ∃ g, a = some ⟨g, 0, none⟩ ∧ g < w.heap.size ∧ ∀ i x, l[i]? = some x → At4 w g (i * 4) x) := by
  rcases rowForm h with ⟨e, e0⟩ | ⟨g, cap, e, hg⟩
  · exact ⟨none, 0, by rw [e, e0], fun c => by omega⟩
  · refine ⟨_, cap, e, fun _ => ⟨g, rfl, hg, fun i x hx => ?_⟩⟩
    have hi : i < l.length := by
      rcases Nat.lt_or_ge i l.length with c | c
      · exact c
      · rw [List.getElem?_eq_none c] at hx; cases hx
    have h2 : w.ownsRow 0 35 4 (.slice (some ⟨g, 0, none⟩) l.length cap) l.length (vC l) := by rw [← e]; exact h
    have hc : ∀ j, j < 4 → w.cell? ⟨g, i * 4 + j, none⟩ = x.cells[j]? := fun j hj => by
      rw [h2.cellAt (i * 4 + j) (by omega), vC_at l i x hx j hj]
    exact ⟨hc 0 (by omega), hc 1 (by omega), hc 2 (by omega), hc 3 (by omega)⟩
theorem Vr.wx {w w' : World} {v : Value} {l : List V4} {X : Nat → Prop} (h : Vr w v l) (k : Wx X w w') (hX : ∀ g, v.ownBlock = some g → ¬ X g) : Vr w' v l :=
  rowStay h (fun g hg => k.block g (World.ownsRow.lt h g hg).2 (hX g hg))

/-! ### objects by lists -/
structure Om where
  k : Int
  a : Int
  b : Int
  M : V4
  ks : List V4
  vs : List V4
  sl : List V4
def Om.wt (o : Om) : Nat := 1 + o.ks.length + o.sl.length
structure Rr where
  om : Om
  kv : Value
  vv : Value
  sv : Value
def Rr.cells (r : Rr) : List Value := [.int .i64 r.om.k, r.kv, r.vv, .int .i64 r.om.M.K, .int .u64 r.om.M.N, .string r.om.M.S, .int .i64 r.om.M.O, .int .i64 r.om.a, .int .i64 r.om.b, r.sv]
def rC (l : List Rr) : List Value := l.flatMap Rr.cells
theorem rC_length : ∀ l : List Rr, (rC l).length = l.length * 10
  | [] => rfl
  | v :: l => by
    have := rC_length l
    unfold rC at *
    rw [List.flatMap_cons, List.length_append, this]
    simp [Rr.cells]; omega
theorem rC_append (l m : List Rr) : rC (l ++ m) = rC l ++ rC m := by unfold rC; simp
theorem rC_at : ∀ (l : List Rr) (i : Nat) (v : Rr), l[i]? = some v → ∀ j, j < 10 → (rC l)[i * 10 + j]? = v.cells[j]?
  | [], i, v, h, j, _ => by simp at h
  | p :: l, 0, v, h, j, hj => by
    simp only [List.getElem?_cons_zero, Option.some.injEq] at h
    subst h
    unfold rC
    rw [List.flatMap_cons, List.getElem?_append_left (by simp [Rr.cells]; omega)]
    simp
  | p :: l, i + 1, v, h, j, hj => by
    rw [List.getElem?_cons_succ] at h
    have := rC_at l i v h j hj
    unfold rC at *
    have hl : p.cells.length = 10 := rfl
    rw [List.flatMap_cons, List.getElem?_append_right (by rw [hl]; omega), hl, show (i + 1) * 10 + j - 10 = i * 10 + j by omega]
    exact this

/-- An object's rows lie in blocks of Q. -/
structure Rrv (w : World) (Q : Nat → Prop) (r : Rr) : Prop where
  k : Vr w r.kv r.om.ks
  v : Vr w r.vv r.om.vs
  s : Vr w r.sv r.om.sl
  own : ∀ g, r.kv.ownBlock = some g ∨ r.vv.ownBlock = some g ∨ r.sv.ownBlock = some g → Q g
  len : r.om.vs.length = r.om.ks.length
theorem Rrv.wx {w w' : World} {Q X : Nat → Prop} {r : Rr} (h : Rrv w Q r) (k : Wx X w w') (hX : ∀ g, Q g → ¬ X g) : Rrv w' Q r :=
  ⟨h.k.wx k (fun g hg => hX g (h.own g (Or.inl hg))), h.v.wx k (fun g hg => hX g (h.own g (Or.inr (Or.inl hg)))), h.s.wx k (fun g hg => hX g (h.own g (Or.inr (Or.inr hg)))), h.own, h.len⟩
theorem Rrv.more {w : World} {Q Q' : Nat → Prop} {r : Rr} (h : Rrv w Q r) (hQ : ∀ g, Q g → Q' g) : Rrv w Q' r := ⟨h.k, h.v, h.s, fun g hg => hQ g (h.own g hg), h.len⟩
def usedR (rs : List Rr) : Nat := (rs.map fun r => r.om.wt).sum
theorem usedR_len : ∀ rs : List Rr, rs.length ≤ usedR rs
  | [] => Nat.le_refl _
  | r :: l => by
    have := usedR_len l
    unfold usedR at *
    simp only [List.map_cons, List.sum_cons, List.length_cons]
    unfold Om.wt at *; omega
theorem usedR_ge : ∀ (rs : List Rr) (i : Nat) (r : Rr), rs[i]? = some r → r.om.wt ≤ usedR rs
  | [], i, r, h => by simp at h
  | p :: l, 0, r, h => by
    simp only [List.getElem?_cons_zero, Option.some.injEq] at h
    subst h
    unfold usedR
    simp only [List.map_cons, List.sum_cons]; omega
  | p :: l, i + 1, r, h => by
    rw [List.getElem?_cons_succ] at h
    have := usedR_ge l i r h
    unfold usedR at *
    simp only [List.map_cons, List.sum_cons]; omega

/-- The reference's heap in the block db: its row of objects R, in blocks of Q that nothing else writes. -/
structure Rv (w : World) (db lim : Nat) (R : Value) (rs : List Rr) (Q : Nat → Prop) : Prop where
  c0 : w.cell? ⟨db, 0, none⟩ = some R
  c1 : w.cell? ⟨db, 1, none⟩ = some (.int .i64 lim)
  free : ∀ o, w.frozen? ⟨db, o, none⟩ = false
  row : w.ownsRow 0 63 10 R rs.length (rC rs)
  ob : ∀ (i : Nat) r, rs[i]? = some r → Rrv w (fun g => Q g ∧ g ≠ db) r
  lt : ∀ k, Q k → k < w.heap.size
  qd : Q db
  qr : ∀ g, R.ownBlock = some g → Q g ∧ g ≠ db
  hl : lim ≤ 1048576
  hu : usedR rs ≤ lim
theorem Rv.wx {w w' : World} {db lim : Nat} {R : Value} {rs : List Rr} {Q X : Nat → Prop} (h : Rv w db lim R rs Q) (k : Wx X w w') (hX : ∀ g, Q g → ¬ X g) : Rv w' db lim R rs Q :=
  ⟨k.cell (hX _ h.qd) h.c0, k.cell (hX _ h.qd) h.c1, fun o => (k.frozen (h.lt _ h.qd) (hX _ h.qd)).trans (h.free o), rowStay h.row (fun g hg => k.block g (h.lt g (h.qr g hg).1) (hX g (h.qr g hg).1)),
    fun i r hr => (h.ob i r hr).wx k (fun g hg => hX g hg.1), fun g hg => Nat.lt_of_lt_of_le (h.lt g hg) k.size, h.qd, h.qr, h.hl, h.hu⟩
theorem Rv.below {w w' : World} {db lim : Nat} {R : Value} {rs : List Rr} {Q : Nat → Prop} (h : Rv w db lim R rs Q) (k : Below w.heap.size w w') : Rv w' db lim R rs Q :=
  h.wx (Wx.of_below (fun _ => False) k) (fun _ _ c => c)
/-- What can be read of the row of objects. -/
theorem Rv.form {w : World} {db lim : Nat} {R : Value} {rs : List Rr} {Q : Nat → Prop} (h : Rv w db lim R rs Q) : ∃ a cap, R = .slice a rs.length cap ∧ (0 < rs.length → ∃ g, a = some ⟨g, 0, none⟩ ∧ g < w.heap.size ∧ ∀ i r, rs[i]? = some r → ∀ j, j < 10 → w.cell? ⟨g, i * 10 + j, none⟩ = r.cells[j]?) := by
  rcases rowForm h.row with ⟨e, e0⟩ | ⟨g, cap, e, hg⟩
  · exact ⟨none, 0, by rw [e, e0], fun c => by omega⟩
  · refine ⟨_, cap, e, fun _ => ⟨g, rfl, hg, fun i r hr j hj => ?_⟩⟩
    have hi : i < rs.length := by
      rcases Nat.lt_or_ge i rs.length with c | c
      · exact c
      · rw [List.getElem?_eq_none c] at hr; cases hr
    have h2 : w.ownsRow 0 63 10 (.slice (some ⟨g, 0, none⟩) rs.length cap) rs.length (rC rs) := by rw [← e]; exact h.row
    rw [h2.cellAt (i * 10 + j) (by omega), rC_at rs i r hr j hj]
theorem rC_one (rs : List Rr) (h : ∀ r ∈ rs, r.kv.oneCell' = true ∧ r.vv.oneCell' = true ∧ r.sv.oneCell' = true) : ∀ u ∈ rC rs, u.oneCell' = true := by
  intro u hu
  unfold rC at hu
  obtain ⟨v, hv0, hv⟩ := List.mem_flatMap.1 hu
  obtain ⟨h1, h2, h3⟩ := h v hv0
  simp only [Rr.cells, List.mem_cons, List.not_mem_nil, or_false] at hv
  rcases hv with rfl | rfl | rfl | rfl | rfl | rfl | rfl | rfl | rfl | rfl <;> first | rfl | assumption
theorem Vr.one {w : World} {v : Value} {l : List V4} (h : Vr w v l) : v.oneCell' = true := by
  obtain ⟨a, cap, rfl, _⟩ := h.form
  rfl

end Go.Proofs.YtjlcdpablnnplaaDoor
