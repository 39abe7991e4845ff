/-
  Layer 20: a disk as a whole: the files by their names, the map that leads to them, and what becomes of them when one of them is written, comes or goes.
-/
import Derived.Test.YtgkgflkcnigeaaaDkMem
namespace Go.Proofs.Ytgkgflkcnigeaaa
set_option maxRecDepth 100000
open Go.RowKit Txt Go.Maps Go.WideShapes

namespace Dk
/-- A file: its name, bytes, how many stand fast; its block, and the slice in it. -/
structure Fl where
  nm : List UInt8
  l : List Nat
  fa : Nat
  b : Nat
  v : Value
/-- A file, plainly. -/
structure Pl where
  nm : List UInt8
  l : List Nat
  fa : Nat
def Fl.pl (f : Fl) : Pl := ⟨f.nm, f.l, f.fa⟩
theorem pl_nm (f : Fl) : f.pl.nm = f.nm := rfl

/-! ### the order of names -/
theorem before_lt : ∀ x y : List UInt8, bytesBefore x y = decide (x < y)
  | [], [] => by simp [bytesBefore]
  | _ :: _, [] => by simp [bytesBefore]
  | [], _ :: _ => by simp [bytesBefore]
  | a :: x, b :: y => by
    rw [bytesBefore, before_lt x y, Bool.eq_iff_iff]
    simp [List.cons_lt_cons_iff]
theorem nm_total {x y : List UInt8} (h : x ≠ y) : x < y ∨ y < x := by
  rcases List.le_total x y with c | c
  · rcases List.le_iff_lt_or_eq.1 c with d | d
    · exact Or.inl d
    · exact absurd d h
  · rcases List.le_iff_lt_or_eq.1 c with d | d
    · exact Or.inr d
    · exact absurd d.symm h

/-! ### plain lists of files -/
def lookP (P : List Pl) (s : List UInt8) : Option Pl := P.find? fun f => f.nm == s
def insP (f : Pl) : List Pl → List Pl
  | [] => [f]
  | g :: r => if f.nm < g.nm then f :: g :: r else g :: insP f r
def dropP (P : List Pl) (s : List UInt8) : List Pl := P.filter fun f => !(f.nm == s)
def setP (P : List Pl) (s : List UInt8) (h : Pl → Pl) : List Pl := P.map fun f => if f.nm = s then h f else f
def lenP (P : List Pl) : Nat := (P.map fun f => f.l.length).sum

def lookF (F : List Fl) (s : List UInt8) : Option Fl := F.find? fun f => f.nm == s
def insF (f : Fl) : List Fl → List Fl
  | [] => [f]
  | g :: r => if f.nm < g.nm then f :: g :: r else g :: insF f r
def dropF (F : List Fl) (s : List UInt8) : List Fl := F.filter fun f => !(f.nm == s)
def setF (F : List Fl) (s : List UInt8) (h : Fl → Fl) : List Fl := F.map fun f => if f.nm = s then h f else f

theorem look_pl (F : List Fl) (s : List UInt8) : lookP (F.map Fl.pl) s = (lookF F s).map Fl.pl := by
  unfold lookP lookF
  rw [List.find?_map]; rfl
theorem ins_pl (f : Fl) : ∀ F : List Fl, (insF f F).map Fl.pl = insP f.pl (F.map Fl.pl)
  | [] => rfl
  | g :: r => by
    show ((if f.nm < g.nm then f :: g :: r else g :: insF f r).map Fl.pl) = if f.pl.nm < g.pl.nm then f.pl :: g.pl :: r.map Fl.pl else g.pl :: insP f.pl (r.map Fl.pl)
    by_cases c : f.nm < g.nm
    · rw [if_pos c, if_pos (by exact c)]; rfl
    · rw [if_neg c, if_neg (by exact c), List.map_cons, ins_pl f r]
theorem drop_pl (F : List Fl) (s : List UInt8) : (dropF F s).map Fl.pl = dropP (F.map Fl.pl) s := by
  unfold dropF dropP
  rw [List.filter_map]; rfl
theorem set_pl (F : List Fl) (s : List UInt8) (h : Fl → Fl) (k : Pl → Pl) (e : ∀ f ∈ F, f.nm = s → (h f).pl = k f.pl) : (setF F s h).map Fl.pl = setP (F.map Fl.pl) s k := by
  unfold setF setP
  rw [List.map_map, List.map_map]
  refine List.map_congr_left fun f hf => ?_
  show (if f.nm = s then h f else f).pl = if f.pl.nm = s then k f.pl else f.pl
  by_cases c : f.nm = s
  · rw [if_pos c, if_pos (by exact c)]; exact e f hf c
  · rw [if_neg c, if_neg (by exact c)]
theorem lookF_some {F : List Fl} {s : List UInt8} {f : Fl} (h : lookF F s = some f) : f ∈ F ∧ f.nm = s := by
  unfold lookF at h
  exact ⟨List.mem_of_find?_eq_some h, by have := List.find?_some h; simpa using this⟩
theorem lookF_none {F : List Fl} {s : List UInt8} (h : lookF F s = none) : ∀ f ∈ F, f.nm ≠ s := by
  unfold lookF at h
  rw [List.find?_eq_none] at h
  intro f hf e
  exact h f hf (by simp [e])
theorem mem_insF {f g : Fl} : ∀ {F : List Fl}, g ∈ insF f F ↔ g = f ∨ g ∈ F
  | [] => by simp [insF]
  | h :: r => by
    unfold insF
    split
    · simp
    · rw [List.mem_cons, mem_insF, List.mem_cons]
      constructor
      · rintro (c | c | c)
        · exact Or.inr (Or.inl c)
        · exact Or.inl c
        · exact Or.inr (Or.inr c)
      · rintro (c | c | c)
        · exact Or.inr (Or.inl c)
        · exact Or.inl c
        · exact Or.inr (Or.inr c)
theorem length_insF (f : Fl) : ∀ F : List Fl, (insF f F).length = F.length + 1
  | [] => rfl
  | g :: r => by
    unfold insF
    split
    · rfl
    · simp [length_insF f r]
theorem insF_sym {R : Fl → Fl → Prop} {f : Fl} (hs : ∀ a b, R a b → R b a) : ∀ {F : List Fl}, F.Pairwise R → (∀ g ∈ F, R f g) → (insF f F).Pairwise R
  | [], _, _ => by simp [insF]
  | g :: r, h, hf => by
    obtain ⟨h1, h2⟩ := List.pairwise_cons.1 h
    unfold insF
    split
    · exact List.pairwise_cons.2 ⟨fun k hk => hf k hk, h⟩
    · refine List.pairwise_cons.2 ⟨fun k hk => ?_, insF_sym hs h2 fun k hk => hf k (List.mem_cons_of_mem _ hk)⟩
      rcases mem_insF.1 hk with rfl | hk
      · exact hs _ _ (hf g List.mem_cons_self)
      · exact h1 k hk
theorem insF_ord {f : Fl} : ∀ {F : List Fl}, F.Pairwise (fun a b => a.nm < b.nm) → (∀ g ∈ F, g.nm ≠ f.nm) → (insF f F).Pairwise fun a b => a.nm < b.nm
  | [], _, _ => by simp [insF]
  | g :: r, h, hf => by
    obtain ⟨h1, h2⟩ := List.pairwise_cons.1 h
    unfold insF
    split
    · rename_i c
      refine List.pairwise_cons.2 ⟨fun k hk => ?_, h⟩
      rcases List.mem_cons.1 hk with rfl | hk
      · exact c
      · exact List.lt_trans c (h1 k hk)
    · rename_i c
      refine List.pairwise_cons.2 ⟨fun k hk => ?_, insF_ord h2 fun k hk => hf k (List.mem_cons_of_mem _ hk)⟩
      rcases mem_insF.1 hk with rfl | hk
      · rcases nm_total (hf g List.mem_cons_self) with d | d
        · exact d
        · exact absurd d c
      · exact h1 k hk
theorem dropF_same {F : List Fl} {s : List UInt8} (h : ∀ f ∈ F, f.nm ≠ s) : dropF F s = F := by
  unfold dropF
  rw [List.filter_eq_self]
  intro f hf
  simpa using h f hf
theorem mem_dropF {F : List Fl} {s : List UInt8} {f : Fl} : f ∈ dropF F s ↔ f ∈ F ∧ f.nm ≠ s := by
  unfold dropF
  rw [List.mem_filter]; simp

/-! ### the map that leads to them -/
def ptrR : Value → Option (DataW Unit × List MemPlace)
  | .pointer none => some (.nil, [])
  | .pointer (some a) => if a.off = 0 ∧ a.spot.isNone = true then some (.lit (.int .i64 a.block), []) else none
  | _ => none
theorem ptrR_nil : ptrR (.pointer none) = some (.nil, []) := rfl
theorem ptrR_some (b : Nat) : ptrR (.pointer (some ⟨b, 0, none⟩)) = some (.lit (.int .i64 b), []) := by simp [ptrR]
theorem ptrR_inv {v : Value} {b : Nat} {ps : List MemPlace} (h : ptrR v = some (.lit (.int .i64 b), ps)) : v = .pointer (some ⟨b, 0, none⟩) := by
  unfold ptrR at h
  split at h
  · cases h
  · rename_i a
    split at h
    · rename_i c
      obtain ⟨c1, c2⟩ := c
      obtain ⟨bl, off, sp⟩ := a
      simp at h c1 c2
      obtain ⟨h1, -⟩ := h
      subst c1; subst c2
      have : bl = b := by omega
      subst this; rfl
    · cases h
  · cases h
theorem ptrR_inv_nil {v : Value} {ps : List MemPlace} (h : ptrR v = some (.nil, ps)) : v = .pointer none := by
  unfold ptrR at h
  split at h
  · rfl
  · split at h <;> cases h
  · cases h
theorem ptrR_form {v : Value} {y : DataW Unit × List MemPlace} (h : ptrR v = some y) : ∃ c : Option Nat, v = .pointer (c.map fun b => ⟨b, 0, none⟩) := by
  unfold ptrR at h
  split at h
  · exact ⟨none, rfl⟩
  · rename_i a
    split at h
    · rename_i c
      obtain ⟨c1, c2⟩ := c
      obtain ⟨bl, off, sp⟩ := a
      simp at c1 c2
      subst c1; subst c2
      exact ⟨some bl, rfl⟩
    · cases h
  · cases h

def ent (f : Fl) : Lit × DataW Unit := (.string f.nm, .lit (.int .i64 f.b))
def DF (F : List Fl) : DataW Unit := .map (F.map ent)
def ptrF (F : List Fl) (s : List UInt8) : Value := match lookF F s with | some f => .pointer (some ⟨f.b, 0, none⟩) | none => .pointer none

theorem df_size (F : List Fl) : Maps.size (DF F) = F.length := by simp [DF, Maps.size]
theorem df_at (F : List Fl) (s : List UInt8) : (DF F).atKey (.string s) .nil = match lookF F s with | some f => .lit (.int .i64 f.b) | none => .nil := by
  unfold DF DataW.atKey lookF
  simp only [List.find?_map]
  have e : ((fun p : Lit × DataW Unit => p.1.sameKey (.string s)) ∘ ent) = fun f : Fl => f.nm == s := by funext f; rfl
  rw [e]
  cases F.find? fun f => f.nm == s <;> rfl
theorem df_ptr {F : List Fl} {s : List UInt8} {v : Value} {ps : List MemPlace} (h : ptrR v = some ((DF F).atKey (.string s) .nil, ps)) : v = ptrF F s := by
  rw [df_at] at h
  unfold ptrF
  cases e : lookF F s with
  | some f => rw [e] at h; exact ptrR_inv h
  | none => rw [e] at h; exact ptrR_inv_nil h
theorem df_del (F : List Fl) (s : List UInt8) : (DF F).del (.string s) = DF (dropF F s) := by
  unfold DF dropF
  rw [DataW.del_eq]
  unfold ChangeMaps.delKey
  rw [List.filter_map]
  rfl
theorem df_ins (f : Fl) : ∀ F : List Fl, DataW.insert (ent f) (F.map ent) = (insF f F).map ent
  | [] => rfl
  | g :: r => by
    have e : (ent f).1.before (ent g).1 = decide (f.nm < g.nm) := before_lt _ _
    show DataW.insert (ent f) (ent g :: r.map ent) = (if f.nm < g.nm then f :: g :: r else g :: insF f r).map ent
    unfold DataW.insert
    rw [e]
    by_cases c : f.nm < g.nm
    · simp [c]
    · simp [c, df_ins f r]
theorem df_put (F : List Fl) (f : Fl) (h : ∀ g ∈ F, g.nm ≠ f.nm) : (DF F).put (.string f.nm) (.lit (.int .i64 f.b)) = DF (insF f F) := by
  have e : dropF F f.nm = F := dropF_same h
  unfold DF
  rw [DataW.put_eq]
  unfold ChangeMaps.putKey
  rw [List.filter_map]
  have e2 : (List.filter (ChangeMaps.notKey (Lit.string f.nm) ∘ ent) F) = dropF F f.nm := rfl
  rw [e2, e, ← df_ins]
  rfl
theorem df_keys (F : List Fl) : strKeys (DF F) = F.map Fl.nm := by
  show (F.map ent).map (fun p => strOf p.1) = _
  rw [List.map_map]; rfl
theorem df_set (F : List Fl) (s : List UInt8) (h : Fl → Fl) (e : ∀ f ∈ F, f.nm = s → (h f).nm = f.nm ∧ (h f).b = f.b) : DF (setF F s h) = DF F := by
  unfold DF setF
  rw [List.map_map]
  congr 1
  refine List.map_congr_left fun f hf => ?_
  show ent (if f.nm = s then h f else f) = ent f
  by_cases c : f.nm = s
  · rw [if_pos c]; unfold ent; rw [(e f hf c).1, (e f hf c).2]
  · rw [if_neg c]

theorem keyed : Keyed Try.prog 9 := string_keyed Try.underlying9
theorem zeroPtr (w : World) : (zeroValue 64).run Try.prog w = .ok (.pointer none) w := by kernel_rfl
theorem key_of {s : List UInt8} (h : s.length ≤ 9223372036854775807) : keyOf Try.prog 9 (.string (bs s)) = some (.string s) := by
  rw [WideMaps.keyOf_string_mk Try.underlying9 (by rw [bs_size]; unfold maxLen; omega), bs_list]
theorem own_tight {P : Program} {k : TypeId} {R : Value → Option (DataW Unit × List MemPlace)} {w : World} {b n : Nat} {D : DataW Unit} (h : w.ownsMap P k R b n D) : w.ownsMap P k R b (Maps.size D) D := by
  obtain ⟨es, clock, hb, F, hs, rfl⟩ := h
  exact ⟨es, clock, hb, F, by simp [Maps.size, length_sorted], rfl⟩
theorem own_stay {P : Program} {k : TypeId} {R : Value → Option (DataW Unit × List MemPlace)} {w w' : World} {b n : Nat} {D : DataW Unit} (h : w.ownsMap P k R b n D) (e : w'.heap[b]? = w.heap[b]?) : w'.ownsMap P k R b n D := by
  obtain ⟨es, clock, hb, r⟩ := h
  exact ⟨es, clock, e.trans hb, r⟩

/-! ### the files, and the map, in memory -/
structure Fs (w : World) (mb : Nat) (F : List Fl) : Prop where
  map : w.ownsMap Try.prog 9 ptrR mb F.length (DF F)
  blk : ∀ f ∈ F, w.heap[f.b]? = some (.cells #[f.v, .int .i64 f.fa] 67 (0, 0))
  row : ∀ f ∈ F, FB w f.v f.l
  fast : ∀ f ∈ F, f.fa ≤ f.l.length
  one : F.Pairwise fun f g => f.b ≠ g.b ∧ ∀ k, f.v.ownBlock = some k → g.v.ownBlock ≠ some k
  ord : F.Pairwise fun f g => f.nm < g.nm
  nam : ∀ f ∈ F, f.nm.length ≤ 32
/-- The blocks of the files, and of the map. -/
def OX (mb : Nat) (F : List Fl) (k : Nat) : Prop := k = mb ∨ ∃ f ∈ F, k = f.b ∨ f.v.ownBlock = some k

theorem Fs.wx {Y : Nat → Prop} {w w' : World} {mb : Nat} {F : List Fl} (h : Fs w mb F) (k : Wx Y w w') (hY : ∀ i, OX mb F i → ¬ Y i) : Fs w' mb F :=
  ⟨own_stay h.map (k.block _ h.map.lt (hY mb (Or.inl rfl))), fun f hf => k.blk (hY _ (Or.inr ⟨f, hf, Or.inl rfl⟩)) (h.blk f hf), fun f hf => (h.row f hf).wx k fun g e => hY g (Or.inr ⟨f, hf, Or.inr e⟩), h.fast, h.one, h.ord, h.nam⟩
theorem Fs.nm_inj {w : World} {mb : Nat} {F : List Fl} (h : Fs w mb F) : ∀ {f g : Fl}, f ∈ F → g ∈ F → f.nm = g.nm → f = g := by
  intro f g hf hg e
  have : ∀ {L : List Fl}, L.Pairwise (fun a b => a.nm < b.nm) → f ∈ L → g ∈ L → f = g := by
    intro L
    induction L with
    | nil => intro _ hf; cases hf
    | cons a r ih =>
      intro hp h1 h2
      obtain ⟨p1, p2⟩ := List.pairwise_cons.1 hp
      rcases List.mem_cons.1 h1 with e1 | q1
      · rcases List.mem_cons.1 h2 with e2 | q2
        · rw [e1, e2]
        · exact absurd (p1 g q2) (by rw [← e1, e]; exact List.lt_irrefl _)
      · rcases List.mem_cons.1 h2 with e2 | q2
        · exact absurd (p1 f q1) (by rw [← e2, e]; exact List.lt_irrefl _)
        · exact ih p2 q1 q2
  exact this h.ord hf hg
theorem one_of {F : List Fl} (h : F.Pairwise fun f g => f.b ≠ g.b ∧ ∀ k, f.v.ownBlock = some k → g.v.ownBlock ≠ some k) : ∀ {f g : Fl}, f ∈ F → g ∈ F → f = g ∨ (f.b ≠ g.b ∧ ∀ k, f.v.ownBlock = some k → g.v.ownBlock ≠ some k) := by
  intro f g hf hg
  induction F with
  | nil => cases hf
  | cons a r ih =>
    obtain ⟨p1, p2⟩ := List.pairwise_cons.1 h
    rcases List.mem_cons.1 hf with e1 | q1
    · rcases List.mem_cons.1 hg with e2 | q2
      · exact Or.inl (by rw [e1, e2])
      · rw [e1]; exact Or.inr (p1 g q2)
    · rcases List.mem_cons.1 hg with e2 | q2
      · rw [e2]; exact Or.inr ⟨fun e => (p1 f q1).1 e.symm, fun k e1 e2 => (p1 f q1).2 k e2 e1⟩
      · exact ih p2 q1 q2
theorem Fs.no_map {w : World} {mb : Nat} {F : List Fl} (h : Fs w mb F) {f : Fl} (hf : f ∈ F) : f.b ≠ mb ∧ f.v.ownBlock ≠ some mb ∧ ∀ g ∈ F, f.v.ownBlock ≠ some g.b := by
  obtain ⟨es, clock, hb, -⟩ := h.map
  refine ⟨fun e => ?_, fun e => ?_, fun g hg e => ?_⟩
  · have := h.blk f hf
    rw [e, hb] at this; cases this
  · obtain ⟨cur, hc⟩ := (h.row f hf).lt e
    rw [hb] at hc; cases hc
  · obtain ⟨cur, hc⟩ := (h.row f hf).lt e
    rw [h.blk g hg] at hc
    simp at hc

/-- One file is written: its block holds another slice and number, the slice's row is its old one or a new one. -/
theorem Fs.upd {Y : Nat → Prop} {w w' : World} {mb : Nat} {F : List Fl} (h : Fs w mb F) {f : Fl} (hf : f ∈ F) (k : Wx Y w w') (hY : ∀ i, OX mb F i → i ≠ f.b → f.v.ownBlock ≠ some i → ¬ Y i) {v : Value} {l : List Nat} {fa : Nat}
    (hb : w'.heap[f.b]? = some (.cells #[v, .int .i64 fa] 67 (0, 0))) (hr : FB w' v l) (hfa : fa ≤ l.length) (hv : v.ownBlock = f.v.ownBlock ∨ ∃ g, v.ownBlock = some g ∧ ∀ e ∈ F, e.v.ownBlock ≠ some g) :
    Fs w' mb (setF F f.nm fun g => { g with l := l, fa := fa, v := v }) := by
  obtain ⟨m1, m2, m3⟩ := h.no_map hf
  have hmem : ∀ g', g' ∈ setF F f.nm (fun g => { g with l := l, fa := fa, v := v }) → (g' = { f with l := l, fa := fa, v := v }) ∨ (g' ∈ F ∧ g' ≠ f) := by
    intro g' hg'
    unfold setF at hg'
    obtain ⟨g, hg, rfl⟩ := List.mem_map.1 hg'
    by_cases c : g.nm = f.nm
    · have e := h.nm_inj hg hf c
      subst e
      rw [if_pos rfl]
      exact Or.inl rfl
    · rw [if_neg c]
      exact Or.inr ⟨hg, fun e => c (by rw [e])⟩
  have hfar : ∀ g ∈ F, g ≠ f → ¬ Y g.b ∧ ∀ i, g.v.ownBlock = some i → ¬ Y i := by
    intro g hg hne
    rcases one_of h.one hg hf with e | ⟨e1, e2⟩
    · exact absurd e hne
    · refine ⟨hY _ (Or.inr ⟨g, hg, Or.inl rfl⟩) e1 (fun e => m3 g hg e), fun i e => hY i (Or.inr ⟨g, hg, Or.inr e⟩) (fun ei => ?_) (e2 i e)⟩
      subst ei
      exact (h.no_map hg).2.2 f hf e
  refine ⟨?_, fun g' hg' => ?_, fun g' hg' => ?_, fun g' hg' => ?_, ?_, ?_, fun g' hg' => ?_⟩
  · rw [df_set F f.nm (fun g => { g with l := l, fa := fa, v := v }) (fun g _ _ => ⟨rfl, rfl⟩)]
    have e : (setF F f.nm fun g => { g with l := l, fa := fa, v := v }).length = F.length := by unfold setF; rw [List.length_map]
    rw [e]
    exact own_stay h.map (k.block _ h.map.lt (hY mb (Or.inl rfl) (fun e => m1 e.symm) m2))
  · rcases hmem g' hg' with rfl | ⟨hg, hne⟩
    · exact hb
    · exact k.blk (hfar g' hg hne).1 (h.blk g' hg)
  · rcases hmem g' hg' with rfl | ⟨hg, hne⟩
    · exact hr
    · exact (h.row g' hg).wx k (hfar g' hg hne).2
  · rcases hmem g' hg' with rfl | ⟨hg, hne⟩
    · exact hfa
    · exact h.fast g' hg
  · unfold setF
    refine List.pairwise_map.2 (h.one.imp_of_mem ?_)
    intro a b ha hb' hab
    by_cases c1 : a.nm = f.nm
    · have e := h.nm_inj ha hf c1
      subst e
      rw [if_pos rfl]
      by_cases c2 : b.nm = a.nm
      · have e2 := h.nm_inj hb' hf c2
        subst e2
        exact absurd rfl hab.1
      · rw [if_neg c2]
        refine ⟨hab.1, fun i e => ?_⟩
        rcases hv with hv | ⟨g, hg, hno⟩
        · exact hab.2 i (by rw [← hv]; exact e)
        · have : i = g := by
            have e' : v.ownBlock = some i := e
            rw [hg] at e'; simpa using e'.symm
          subst this
          exact hno b hb'
    · rw [if_neg c1]
      by_cases c2 : b.nm = f.nm
      · have e2 := h.nm_inj hb' hf c2
        subst e2
        rw [if_pos rfl]
        refine ⟨hab.1, fun i e e' => ?_⟩
        rcases hv with hv | ⟨g, hg, hno⟩
        · exact hab.2 i e (by rw [← hv]; exact e')
        · have : i = g := by
            have e'' : v.ownBlock = some i := e'
            rw [hg] at e''; simpa using e''.symm
          subst this
          exact hno a ha e
      · rw [if_neg c2]
        exact hab
  · unfold setF
    refine List.pairwise_map.2 (h.ord.imp ?_)
    intro a b hab
    have e : ∀ c : Fl, (if c.nm = f.nm then ({ c with l := l, fa := fa, v := v } : Fl) else c).nm = c.nm := fun c => by split <;> rfl
    rw [e, e]
    exact hab
  · rcases hmem g' hg' with rfl | ⟨hg, hne⟩
    · exact h.nam f hf
    · exact h.nam g' hg
theorem mem_setF {w : World} {mb : Nat} {F : List Fl} (h : Fs w mb F) {f : Fl} (hf : f ∈ F) {k : Fl → Fl} {g' : Fl} (hg' : g' ∈ setF F f.nm k) : g' = k f ∨ g' ∈ F := by
  unfold setF at hg'
  obtain ⟨g, hg, rfl⟩ := List.mem_map.1 hg'
  by_cases c : g.nm = f.nm
  · have e := h.nm_inj hg hf c
    subst e
    rw [if_pos rfl]
    exact Or.inl rfl
  · rw [if_neg c]
    exact Or.inr hg

/-- A file goes. -/
theorem Fs.del {w w' : World} {mb : Nat} {F : List Fl} (h : Fs w mb F) (s : List UInt8) {n : Nat} (hm : w'.ownsMap Try.prog 9 ptrR mb n ((DF F).del (.string s))) (k : Wx (fun i => i = mb) w w') : Fs w' mb (dropF F s) := by
  have hsub : (dropF F s).Sublist F := List.filter_sublist
  refine ⟨?_, fun f hf => ?_, fun f hf => ?_, fun f hf => h.fast f (hsub.mem hf), h.one.sublist hsub, h.ord.sublist hsub, fun f hf => h.nam f (hsub.mem hf)⟩
  · rw [df_del] at hm
    have := own_tight hm
    rw [df_size] at this
    exact this
  · exact k.blk (h.no_map (hsub.mem hf)).1 (h.blk f (hsub.mem hf))
  · exact (h.row f (hsub.mem hf)).wx k fun g e eg => (h.no_map (hsub.mem hf)).2.1 (by rw [e, eg])
/-- A file comes. -/
theorem Fs.ins {w w' : World} {mb : Nat} {F : List Fl} (h : Fs w mb F) (f : Fl) (hno : ∀ g ∈ F, g.nm ≠ f.nm) {n : Nat} (hm : w'.ownsMap Try.prog 9 ptrR mb n ((DF F).put (.string f.nm) (.lit (.int .i64 f.b)))) (k : Wx (fun i => i = mb) w w')
    (hb : w.heap[f.b]? = some (.cells #[f.v, .int .i64 f.fa] 67 (0, 0))) (hr : FB w f.v f.l) (hfa : f.fa ≤ f.l.length) (hn : f.nm.length ≤ 32) (hx : ∀ g ∈ F, f.b ≠ g.b ∧ ∀ i, f.v.ownBlock = some i → g.v.ownBlock ≠ some i) : Fs w' mb (insF f F) := by
  obtain ⟨es, clock, hmb, -⟩ := h.map
  have hbm : f.b ≠ mb := fun e => by rw [e, hmb] at hb; cases hb
  have hvm : ∀ g, f.v.ownBlock = some g → ¬ g = mb := fun g e eg => by
    obtain ⟨cur, hc⟩ := hr.lt e
    rw [eg, hmb] at hc; cases hc
  refine ⟨?_, fun g hg => ?_, fun g hg => ?_, fun g hg => ?_, ?_, insF_ord h.ord hno, fun g hg => ?_⟩
  · rw [df_put F f hno] at hm
    have := own_tight hm
    rw [df_size] at this
    exact this
  · rcases mem_insF.1 hg with rfl | hg
    · exact k.blk hbm hb
    · exact k.blk (h.no_map hg).1 (h.blk g hg)
  · rcases mem_insF.1 hg with rfl | hg
    · exact hr.wx k hvm
    · exact (h.row g hg).wx k fun i e ei => (h.no_map hg).2.1 (by rw [e, ei])
  · rcases mem_insF.1 hg with rfl | hg
    · exact hfa
    · exact h.fast g hg
  · exact insF_sym (fun a b hab => ⟨fun e => hab.1 e.symm, fun i e1 e2 => hab.2 i e2 e1⟩) h.one hx
  · rcases mem_insF.1 hg with rfl | hg
    · exact hn
    · exact h.nam g hg
end Dk

end Go.Proofs.Ytgkgflkcnigeaaa
