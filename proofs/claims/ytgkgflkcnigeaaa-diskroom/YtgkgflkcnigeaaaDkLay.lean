/-
  Layer 20: the landed disk: bytes are laid behind a file's.
-/
import Derived.Test.YtgkgflkcnigeaaaDkPut
namespace Go.Proofs.Ytgkgflkcnigeaaa
set_option maxRecDepth 100000
open Go.RowKit Txt Go.Maps Dk

namespace Dk
def layP (P : List Pl) (s : List UInt8) (l : List Nat) : List Pl := match lookP P s with
  | some _ => setP P s fun f => ⟨f.nm, f.l ++ l, f.fa⟩
  | none => insP ⟨s, l, 0⟩ P
/-- What is there behind w' besides: blocks that were made since w. -/
def nxt (X : Nat → Prop) (w w' : World) (k : Nat) : Prop := X k ∨ (w.heap.size ≤ k ∧ k < w'.heap.size)
theorem Dv.grow {w : World} {X Z : Nat → Prop} {db mb sz u : Nat} {pw lf : Int} {F : List Fl} (h : Dv w X db mb sz u pw lf F) (h1 : ∀ k, X k → Z k) (h2 : ∀ k, Z k → k < w.heap.size) : Dv w Z db mb sz u pw lf F :=
  ⟨h.blk, h.fs, h1 _ h.xd, fun k hk => h1 k (h.xs k hk), h2⟩
theorem Dv.look {w : World} {X : Nat → Prop} {db mb sz u : Nat} {pw lf : Int} {F : List Fl} (h : Dv w X db mb sz u pw lf F) {s : List UInt8} (hs : s.length ≤ 9223372036854775807) :
    (Instr.lookup 56 (.map (some mb)) (.string (bs s)) false).run Try.prog w = .ok (ptrF F s) w := by
  obtain ⟨v, ps, hrun, hv⟩ := h.fs.map.lookup keyed Try.underlying56 (zeroPtr w) ptrR_nil (key_of hs)
  rw [hrun, df_ptr hv]
theorem ptrF_some {F : List Fl} {s : List UInt8} {f : Fl} (h : lookF F s = some f) : ptrF F s = .pointer (some ⟨f.b, 0, none⟩) := by unfold ptrF; rw [h]
theorem ptrF_none {F : List Fl} {s : List UInt8} (h : lookF F s = none) : ptrF F s = .pointer none := by unfold ptrF; rw [h]
theorem set_ins {s : List UInt8} {h : Pl → Pl} {f : Pl} (hf : f.nm = s) (hn : (h f).nm = f.nm) : ∀ {P : List Pl}, (∀ g ∈ P, g.nm ≠ s) → setP (insP f P) s h = insP (h f) P
  | [], _ => by simp [setP, insP, hf]
  | g :: r, hno => by
    have hg := hno g List.mem_cons_self
    have ih := set_ins hf hn (P := r) fun k hk => hno k (List.mem_cons_of_mem _ hk)
    have hr : setP r s h = r := by
      unfold setP
      conv => rhs; rw [← List.map_id r]
      refine List.map_congr_left fun k hk => ?_
      rw [if_neg (hno k (List.mem_cons_of_mem _ hk))]; rfl
    unfold insP
    rw [hn]
    by_cases c : f.nm < g.nm
    · rw [if_pos c, if_pos c]
      show (if f.nm = s then h f else f) :: (if g.nm = s then h g else g) :: setP r s h = _
      rw [if_pos hf, if_neg hg, hr]
    · rw [if_neg c, if_neg c]
      show (if g.nm = s then h g else g) :: setP (insP f r) s h = _
      rw [if_neg hg, ih]

/-- append to a file's bytes, as an operation. -/
theorem wpList_append_fb {w : World} {ops : Array Oper} {rest : List Oper} {o : Oper} {a : Act} {Q : Exit → Act → World → Prop} (hg : o.guard = none) (s x : Operand)
    (ho : o.op = .call { callee := .builtin .append, args := #[s, x], argTypes := #[33, 33] }) (v : Value) (l : List Nat) (hs : a.eval s = v) (hv : FB w v l) (xv : Value) (k : List Nat) (hx : a.eval x = xv) (hk : BR w xv k) (hlen : l.length + k.length ≤ 140737488355328)
    (h : ∀ a' c' w', FB w' (.slice a' (l.length + k.length) c') (l ++ k) → w.grownBy w' v.ownBlock → ((Value.slice a' (l.length + k.length) c').ownBlock = v.ownBlock ∨ (Value.slice a' (l.length + k.length) c').ownBlock = some w.heap.size) → wpList Try.prog ops Q rest (a.put o.dst (.slice a' (l.length + k.length) c')) w') :
    wpList Try.prog ops Q (o :: rest) a w := by
  refine wpList_plain hg fun _ hK => ?_
  obtain ⟨a', c', w', hr, h2, h3, h4⟩ := run_append_fb hv hk hlen o.type
  unfold Oper.wp execOp
  simp only [ho, resolve, invoke, builtin, Sem.run_bind, Sem.run_pure, Result.andThen_ok, List.map_toArray, List.map_cons, List.map_nil, hs, hx, hr]
  exact hK _ _ (h a' c' w' h2 h3 h4)

theorem Dv.file {w : World} {X : Nat → Prop} {db mb sz u : Nat} {pw lf : Int} {F : List Fl} (h : Dv w X db mb sz u pw lf F) {f : Fl} (hf : f ∈ F) :
    w.cell? ⟨f.b, 0, none⟩ = some f.v ∧ w.cell? ⟨f.b, 1, none⟩ = some (.int .i64 f.fa) ∧ (∀ i, w.frozen? ⟨f.b, i, none⟩ = false) ∧ f.b ≠ db ∧ f.v.ownBlock ≠ some db ∧ f.v.ownBlock ≠ some f.b := by
  have hb := h.fs.blk f hf
  refine ⟨by rw [Lib.cell_of_heap hb]; rfl, by rw [Lib.cell_of_heap hb]; rfl, unfz hb, h.fs.apart h.blk _ (Or.inr ⟨f, hf, Or.inl rfl⟩), fun e => h.fs.apart h.blk db (Or.inr ⟨f, hf, Or.inr e⟩) rfl, (h.fs.no_map hf).2.2 f hf⟩

/-- A file's cells are written, then the disk's own. -/
theorem Dv.turn {w w' w'' : World} {X : Nat → Prop} {db mb sz u u' : Nat} {pw lf : Int} {F : List Fl} (h : Dv w X db mb sz u pw lf F) {f : Fl} (hf : f ∈ F) {v : Value} {l : List Nat} {fa : Nat}
    (k : Wx (fun i => i = f.b ∨ f.v.ownBlock = some i) w w') (hb : w'.heap[f.b]? = some (.cells #[v, .int .i64 fa] 67 (0, 0))) (hr : FB w' v l) (hfa : fa ≤ l.length) (hv : v.ownBlock = f.v.ownBlock ∨ v.ownBlock = some w.heap.size)
    (k2 : Wx (fun i => i = db) w' w'') (hb2 : w''.heap[db]? = some (.cells #[.int .i64 sz, .int .i64 u', .map (some mb), .int .i64 pw, .int .i64 lf] 59 (0, 0))) :
    Dv w'' (nxt X w w'') db mb sz u' pw lf (setF F f.nm fun g => { g with l := l, fa := fa, v := v }) ∧ Wx X w w'' := by
  have hx : ∀ i, (i = f.b ∨ f.v.ownBlock = some i) → X i := fun i hi => h.xs i (Or.inr ⟨f, hf, hi⟩)
  have hk : Wx X w w'' := (k.more fun i hi => Or.inl (hx i hi)).trans k2 fun i hi => Or.inl (by rw [hi]; exact h.xd)
  have hvn : v.ownBlock = f.v.ownBlock ∨ ∃ g, v.ownBlock = some g ∧ ∀ e ∈ F, e.v.ownBlock ≠ some g := by
    rcases hv with e | e
    · exact Or.inl e
    · exact Or.inr ⟨_, e, fun g hg eg => absurd (h.xlt _ (h.xs _ (Or.inr ⟨g, hg, Or.inr eg⟩))) (Nat.lt_irrefl _)⟩
  have hF := h.fs.upd hf k (fun i _ h1 h2 => by rintro (c | c); exact h1 c; exact h2 c) hb hr hfa hvn
  have hb1 : w'.heap[db]? = some (.cells #[.int .i64 sz, .int .i64 u, .map (some mb), .int .i64 pw, .int .i64 lf] 59 (0, 0)) := k.blk (fun c => h.fs.apart h.blk db (Or.inr ⟨f, hf, c⟩) rfl) h.blk
  have hF2 := hF.wx k2 (hF.apart hb1)
  refine ⟨⟨hb2, hF2, Or.inl h.xd, fun i hi => ?_, fun i hi => ?_⟩, hk⟩
  · rcases hi with rfl | ⟨g, hg, hi⟩
    · exact Or.inl (h.xs _ (Or.inl rfl))
    · rcases mem_setF h.fs hf hg with rfl | hg
      · rcases hi with rfl | e
        · exact Or.inl (h.xs _ (Or.inr ⟨f, hf, Or.inl rfl⟩))
        · have e' : v.ownBlock = some i := e
          rcases hv with c | c
          · exact Or.inl (h.xs _ (Or.inr ⟨f, hf, Or.inr (by rw [← c]; exact e')⟩))
          · rw [e'] at c
            have : i = w.heap.size := by simpa using c
            subst this
            obtain ⟨cur, hc⟩ := hr.lt e'
            exact Or.inr ⟨Nat.le_refl _, Nat.lt_of_lt_of_le (lt_some hc) k2.size⟩
      · exact Or.inl (h.xs _ (Or.inr ⟨g, hg, hi⟩))
  · rcases hi with hi | hi
    · exact Nat.lt_of_lt_of_le (h.xlt i hi) hk.size
    · exact hi.2
theorem nxt_nxt {X : Nat → Prop} {a b c : World} (h1 : a.heap.size ≤ b.heap.size) (h2 : b.heap.size ≤ c.heap.size) (k : Nat) (h : nxt (nxt X a b) b c k) : nxt X a c k := by
  rcases h with (h | h) | h
  · exact Or.inl h
  · exact Or.inr ⟨h.1, by omega⟩
  · exact Or.inr ⟨by omega, h.2⟩
/-- Bytes were appended to a file's, and its slice and the count of used bytes are set. -/
theorem Dv.laid {w : World} {X : Nat → Prop} {db mb sz u : Nat} {pw lf : Int} {F : List Fl} (h : Dv w X db mb sz u pw lf F) {f : Fl} (hf : f ∈ F) (l : List Nat) (a' : Option Addr) (n c' : Nat) (w2 : World) (_ : n = f.l.length + l.length)
    (q1 : FB w2 (.slice a' n c') (f.l ++ l)) (q2 : w.grownBy w2 f.v.ownBlock) (q3 : (Value.slice a' n c').ownBlock = f.v.ownBlock ∨ (Value.slice a' n c').ownBlock = some w.heap.size) :
    (w2.cell? ⟨f.b, 0, none⟩ = some f.v ∧ w2.frozen? ⟨f.b, 0, none⟩ = false ∧ w2.cell? ⟨db, 1, none⟩ = some (.int .i64 u) ∧ w2.frozen? ⟨db, 1, none⟩ = false) ∧
    Dv ((w2.setCell ⟨f.b, 0, none⟩ (.slice a' n c')).setCell ⟨db, 1, none⟩ (.int .i64 ((u : Int) + (l.length : Int)))) (nxt X w ((w2.setCell ⟨f.b, 0, none⟩ (.slice a' n c')).setCell ⟨db, 1, none⟩ (.int .i64 ((u : Int) + (l.length : Int))))) db mb sz (u + l.length) pw lf (setF F f.nm fun g => { g with l := f.l ++ l, fa := f.fa, v := .slice a' n c' }) ∧
    Wx X w ((w2.setCell ⟨f.b, 0, none⟩ (.slice a' n c')).setCell ⟨db, 1, none⟩ (.int .i64 ((u : Int) + (l.length : Int)))) := by
  obtain ⟨b0, b1, bz, n1, n2, n3⟩ := h.file hf
  have kk : Wx (fun i => f.v.ownBlock = some i) w w2 := Wx.grown q2 fun k e => e
  have hbf := kk.blk (k := f.b) (fun e => n3 e) (h.fs.blk f hf)
  have hbd := kk.blk (k := db) (fun e => n2 e) h.blk
  refine ⟨⟨by rw [Lib.cell_of_heap hbf]; rfl, unfz hbf 0, by rw [Lib.cell_of_heap hbd]; rfl, unfz hbd 1⟩, ?_⟩
  have hs1 := heap_setCell_same w2 f.b 0 _ _ (.slice a' n c') hbf
  have hr1 : FB (w2.setCell ⟨f.b, 0, none⟩ (.slice a' n c')) (.slice a' n c') (f.l ++ l) := q1.wx (Wx.set (X := fun i => i = f.b) w2 0 _ rfl) fun g e eg => by
    obtain ⟨cur, hc⟩ := q1.lt e
    rw [eg, hbf] at hc
    simp at hc
  have hd1 := (Wx.set (X := fun i => i = f.b) w2 0 (.slice a' n c') (k := f.b) rfl).blk (k := db) (fun e => n1 e.symm) hbd
  exact h.turn hf ((kk.more fun i hi => Or.inl (Or.inr hi)).trans (Wx.set w2 0 _ (Or.inl rfl)) fun i hi => Or.inl hi) hs1 hr1 (by have := h.fs.fast f hf; rw [List.length_append]; omega) q3 (Wx.set (X := fun i => i = db) _ 1 (.int .i64 ((u : Int) + (l.length : Int))) (k := db) rfl) (u' := u + l.length) (heap_setCell_same _ db 1 _ _ _ hd1)
end Dk

set_option maxHeartbeats 2000000 in
theorem lay_any (X : Nat → Prop) (db mb sz u : Nat) (pw lf : Int) (F : List Fl) (s : List UInt8) (v : Value) (l : List Nat) (w : World) (h : Dv w X db mb sz u pw lf F) (hn : s.length ≤ 32) (hv : BR w v l) (hvx : ∀ w', Wx X w w' → BR w' v l) (hl : F.length ≤ 1000000000) (hu : u + l.length ≤ 1000000000) (hfl : ∀ f ∈ F, f.l.length ≤ 1000000000) :
    Calls Try.prog 33 #[.pointer (some ⟨db, 0, none⟩), .string (bs s), v] w fun e w' => e = .returned (.tuple #[]) ∧ ∃ F', F'.map Fl.pl = layP (F.map Fl.pl) s l ∧ Dv w' (nxt X w w') db mb sz (u + l.length) pw lf F' ∧ Wx X w w' := by
  obtain ⟨⟨c0, c1, c2, c3, c4⟩, fz⟩ := h.cells
  have hlk := h.look (s := s) (by omega)
  obtain ⟨va, vc, rfl, -⟩ := br_src hv
  cases hF : lookF F s with
  | some f =>
    obtain ⟨hf, hnm⟩ := lookF_some hF
    obtain ⟨b0, b1, bz, n1, n2, n3⟩ := h.file hf
    rw [ptrF_some hF] at hlk
    have hrow := h.fs.row f hf
    have hlen := hfl f hf
    obtain ⟨fa, fc, ev, -, -, -⟩ := hrow.form
    have HPL : Hid (∀ v', (setF F f.nm fun g => { g with l := f.l ++ l, fa := f.fa, v := v' }).map Fl.pl = layP (F.map Fl.pl) s l) := fun v' => by
      unfold layP
      rw [look_pl, hF]
      refine (set_pl F f.nm _ (fun f => ⟨f.nm, f.l ++ l, f.fa⟩) fun g hg e => ?_).trans (by rw [hnm]; rfl)
      rw [h.fs.nm_inj hg hf e]; rfl
    have HE := hide_p (h.laid hf l)
    rw [ev] at hrow HE b0
    clear hvx hfl hl hF hf hnm n2 n3 h ev
    have HU : Hid (f.l.length + l.length ≤ 140737488355328) := by show _ ≤ _; omega
    have HRW := hide_p hrow
    have HBR := hide_p hv
    clear hrow hv
    generalize bs s = S at *
    generalize f.b = fb at *
    go_enter Try.func33, Try.ntmps33
    go_wp2_with (at_builtin; refine wpList_append_fb rfl _ _ rfl _ _ rfl HRW.out _ _ rfl HBR.out HU.out ?_; intro a' c' w2 q1 q2 q3; obtain ⟨⟨k0, kz, k1, kd⟩, HF⟩ := HE.out a' _ c' w2 rfl q1 q2 q3; replace HF := hide_p HF; clear q1 q2 q3 HE HRW HBR)
    go_end0
    exact ⟨rfl, _, HPL.out _, HF.out⟩
  | none =>
    have hno := lookF_none hF
    rw [ptrF_none hF] at hlk
    obtain ⟨w1, hw1⟩ : ∃ w1, w1 = w.alloc (.cells #[.slice none 0 0, .int .i64 0] 67) := ⟨_, rfl⟩
    obtain ⟨fb, hfb⟩ : ∃ fb, fb = w.heap.size := ⟨_, rfl⟩
    have hbl : Below w.heap.size w w1 := by rw [hw1]; exact (Below.refl _ _).alloc (Nat.le_refl _) _
    have hsz1 : w1.heap.size = fb + 1 := by rw [hw1, hfb]; simp
    have hblk : w1.heap[fb]? = some (.cells #[.slice none 0 0, .int .i64 (0 : Nat)] 67 (0, 0)) := by rw [hw1, hfb]; exact heap_alloc_new _ _
    have hD1 := h.below hbl
    have hput := put_any X (fun k => X k ∨ k = fb) db mb sz u pw lf F ⟨s, [], 0, fb, .slice none 0 0⟩ w1 hD1 hno hblk (FB.nil _) (Nat.le_refl _) hn (fun g hg => ⟨fun e => by
        have := h.xlt _ (h.xs _ (Or.inr ⟨g, hg, Or.inl rfl⟩))
        simp only at e
        omega, fun i e => by cases e⟩) hl (fun k hk => Or.inl hk) (Or.inr rfl) (fun g e => by cases e) (fun k hk => by
        rcases hk with hk | hk
        · exact Nat.lt_of_lt_of_le (h.xlt k hk) hbl.size
        · omega)
    have HT : Hid (∀ w2, Dv w2 (fun k => X k ∨ k = fb) db mb sz u pw lf (insF ⟨s, [], 0, fb, .slice none 0 0⟩ F) → Wx (fun i => i = mb) w1 w2 →
        ((w2.cell? ⟨fb, 0, none⟩ = some (.slice none 0 0) ∧ ∀ i, w2.frozen? ⟨fb, i, none⟩ = false) ∧ fb ≠ db ∧ BR w2 (.slice va l.length vc) l ∧ FB w2 (.slice none 0 0) []) ∧
        ∀ a' n c' w3, n = 0 + l.length → FB w3 (.slice a' n c') ([] ++ l) → w2.grownBy w3 none → ((Value.slice a' n c').ownBlock = none ∨ (Value.slice a' n c').ownBlock = some w2.heap.size) →
          (w3.cell? ⟨fb, 0, none⟩ = some (.slice none 0 0) ∧ w3.frozen? ⟨fb, 0, none⟩ = false ∧ w3.cell? ⟨db, 1, none⟩ = some (.int .i64 u) ∧ w3.frozen? ⟨db, 1, none⟩ = false) ∧
          ∃ F', F'.map Fl.pl = layP (F.map Fl.pl) s l ∧ Dv ((w3.setCell ⟨fb, 0, none⟩ (.slice a' n c')).setCell ⟨db, 1, none⟩ (.int .i64 ((u : Int) + (l.length : Int)))) (nxt X w ((w3.setCell ⟨fb, 0, none⟩ (.slice a' n c')).setCell ⟨db, 1, none⟩ (.int .i64 ((u : Int) + (l.length : Int))))) db mb sz (u + l.length) pw lf F' ∧ Wx X w ((w3.setCell ⟨fb, 0, none⟩ (.slice a' n c')).setCell ⟨db, 1, none⟩ (.int .i64 ((u : Int) + (l.length : Int))))) := by
      intro w2 hD2 hk2
      have hf : (⟨s, [], 0, fb, .slice none 0 0⟩ : Fl) ∈ insF ⟨s, [], 0, fb, .slice none 0 0⟩ F := mem_insF.2 (Or.inl rfl)
      obtain ⟨b0, b1, bz, n1, n2, n3⟩ := hD2.file hf
      have hwx : Wx X w w2 := (Wx.of_below _ hbl).trans hk2 fun i hi => Or.inl (by rw [hi]; exact h.xs _ (Or.inl rfl))
      refine ⟨⟨⟨b0, bz⟩, n1, hvx w2 hwx, FB.nil _⟩, fun a' n c' w3 hn q1 q2 q3 => ?_⟩
      obtain ⟨r1, r2, r3⟩ := hD2.laid hf l a' n c' w3 hn q1 q2 q3
      refine ⟨r1, _, ?_, r2.grow (fun k hk => ?_) (fun k hk => ?_), ?_⟩
      · rw [set_pl _ _ _ (fun f => ⟨f.nm, f.l ++ l, f.fa⟩) (fun g hg e => ?_), ins_pl]
        · show setP (insP ⟨s, [], 0⟩ (F.map Fl.pl)) s _ = _
          rw [set_ins rfl rfl (fun g hg => ?_)]
          · unfold layP
            rw [look_pl, hF]; rfl
          · obtain ⟨g', hg', rfl⟩ := List.mem_map.1 hg
            exact hno g' hg'
        · rw [hD2.fs.nm_inj hg hf e]; rfl
      · rcases hk with (hk | hk) | hk
        · exact Or.inl hk
        · rw [hk]
          exact Or.inr ⟨by omega, Nat.lt_of_lt_of_le (by have := hk2.size; omega) r3.size⟩
        · exact Or.inr ⟨by have := hk2.size; omega, hk.2⟩
      · rcases hk with hk | hk
        · exact Nat.lt_of_lt_of_le (Nat.lt_of_lt_of_le (h.xlt k hk) hwx.size) r3.size
        · exact hk.2
      · exact hwx.trans r3 fun i hi => by
          rcases hi with hi | hi
          · exact Or.inl hi
          · exact Or.inr (by omega)
    have HU : Hid (([] : List Nat).length + l.length ≤ 140737488355328) := by show _ ≤ _; simp; omega
    clear hvx hfl hl hF hno h hD1 hblk hsz1 hbl hv
    generalize bs s = S at *
    go_enter Try.func33, Try.ntmps33
    go_wp2_with fail
    rw [← hw1, ← hfb]
    clear hw1 hfb
    refine hput.mono ?_
    rintro e w2 ⟨rfl, hD2, hk2⟩
    obtain ⟨⟨⟨b0, bz⟩, n1, hbr, hfb⟩, HE⟩ := HT.out w2 hD2 hk2
    have HE := hide_p HE
    have HBR := hide_p hbr
    have HRW := hide_p hfb
    clear HT hput hD2 hk2 hbr hfb
    go_wp2_with (at_builtin; refine wpList_append_fb rfl _ _ rfl _ _ rfl HRW.out _ _ rfl HBR.out HU.out ?_; intro a' c' w3 q1 q2 q3; obtain ⟨⟨k0, kz, k1, kd⟩, HF⟩ := HE.out a' _ c' w3 rfl q1 q2 q3; replace HF := hide_p HF; clear q1 q2 q3 HE HRW HBR)
    go_end0
    have HF2 := HF.out
    rw [Nat.zero_add] at HF2
    exact ⟨rfl, HF2⟩

end Go.Proofs.Ytgkgflkcnigeaaa
