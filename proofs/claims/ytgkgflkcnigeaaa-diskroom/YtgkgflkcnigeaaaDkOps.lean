/-
  Layer 20: the landed disk: New, Cut, Append, Sync.
-/
import Derived.Test.YtgkgflkcnigeaaaDkTell
namespace Go.Proofs.Ytgkgflkcnigeaaa
set_option maxRecDepth 100000
open Go.RowKit Txt Go.Maps Dk

namespace Dk
/-- A disk, plainly: its size, the power, the calls that are left, its files. -/
structure Ps where
  sz : Nat
  pw : Int
  lf : Int
  P : List Pl
/-- A disk in memory. -/
structure Dsk (w : World) (X : Nat → Prop) (db : Nat) (S : Ps) : Prop where
  lies : ∃ mb F, F.map Fl.pl = S.P ∧ Dv w X db mb S.sz (lenP S.P) S.pw S.lf F
  room : lenP S.P ≤ S.sz
  size : S.sz ≤ 67108864
  pow : S.pw = 0 ∨ S.pw = 1 ∨ S.pw = 2
  lf0 : 0 ≤ S.lf
  lf1 : S.lf ≤ 9223372036854775807

theorem lenP_nil : lenP [] = 0 := rfl
theorem lenP_cons (f : Pl) (P : List Pl) : lenP (f :: P) = f.l.length + lenP P := by simp [lenP]
theorem lenP_mem {P : List Pl} {f : Pl} (h : f ∈ P) : f.l.length ≤ lenP P := by
  induction P with
  | nil => cases h
  | cons g r ih =>
    rw [lenP_cons]
    rcases List.mem_cons.1 h with rfl | h
    · omega
    · have := ih h; omega
theorem lenP_ins (f : Pl) : ∀ P : List Pl, lenP (insP f P) = f.l.length + lenP P
  | [] => by simp [insP, lenP_cons]
  | g :: r => by
    unfold insP
    split
    · rw [lenP_cons]
    · rw [lenP_cons, lenP_ins f r, lenP_cons]; omega
theorem setP_none {P : List Pl} {s : List UInt8} {h : Pl → Pl} (hn : ∀ f ∈ P, f.nm ≠ s) : setP P s h = P := by
  unfold setP
  conv => rhs; rw [← List.map_id P]
  exact List.map_congr_left fun f hf => by rw [if_neg (hn f hf)]; rfl
def OrdP (P : List Pl) : Prop := P.Pairwise fun a b => a.nm < b.nm
theorem lookP_some {P : List Pl} {s : List UInt8} {f : Pl} (h : lookP P s = some f) : f ∈ P ∧ f.nm = s := by
  unfold lookP at h
  exact ⟨List.mem_of_find?_eq_some h, by have := List.find?_some h; simpa using this⟩
theorem lookP_none {P : List Pl} {s : List UInt8} (h : lookP P s = none) : ∀ f ∈ P, f.nm ≠ s := by
  unfold lookP at h
  rw [List.find?_eq_none] at h
  intro f hf e
  exact h f hf (by simp [e])
theorem lenP_set {s : List UInt8} {h : Pl → Pl} {f : Pl} : ∀ {P : List Pl}, OrdP P → lookP P s = some f → lenP (setP P s h) + f.l.length = lenP P + (h f).l.length
  | [], _, e => by cases e
  | g :: r, ho, e => by
    obtain ⟨p1, p2⟩ := List.pairwise_cons.1 ho
    have hc : setP (g :: r) s h = (if g.nm = s then h g else g) :: setP r s h := rfl
    rw [hc, lenP_cons, lenP_cons]
    unfold lookP at e
    by_cases c : g.nm = s
    · rw [List.find?_cons_of_pos (by simp [c])] at e
      cases e
      rw [if_pos c, setP_none fun k hk e => by
        have := p1 k hk
        rw [c, e] at this
        exact List.lt_irrefl _ this]
      omega
    · rw [List.find?_cons_of_neg (by simp [c])] at e
      rw [if_neg c]
      have := lenP_set p2 e (h := h)
      omega
theorem lenP_lay {P : List Pl} {s : List UInt8} (l : List Nat) (ho : OrdP P) : lenP (layP P s l) = lenP P + l.length := by
  unfold layP
  cases e : lookP P s with
  | some f =>
    have := lenP_set (h := fun f => (⟨f.nm, f.l ++ l, f.fa⟩ : Pl)) ho e
    simp only [List.length_append] at this ⊢
    omega
  | none =>
    show lenP (insP ⟨s, l, 0⟩ P) = _
    rw [lenP_ins]
    exact Nat.add_comm _ _
theorem Fs.ordP {w : World} {mb : Nat} {F : List Fl} (h : Fs w mb F) : OrdP (F.map Fl.pl) := List.pairwise_map.2 h.ord

theorem step_pow {pw lf r pw' lf' : Int} (h : stepC pw lf = (r, pw', lf')) (hp : pw = 0 ∨ pw = 1 ∨ pw = 2) (h0 : 0 ≤ lf) (h1 : lf ≤ 9223372036854775807) : (r = 0 ∨ r = 1 ∨ r = 2) ∧ (pw' = 0 ∨ pw' = 1 ∨ pw' = 2) ∧ 0 ≤ lf' ∧ lf' ≤ 9223372036854775807 := by
  unfold stepC at h
  split at h
  · split at h <;> (simp at h; obtain ⟨rfl, rfl, rfl⟩ := h; refine ⟨?_, ?_, ?_, ?_⟩ <;> omega)
  · simp at h
    obtain ⟨rfl, rfl, rfl⟩ := h
    exact ⟨hp, hp, h0, h1⟩

/-- Only the power has turned. -/
def Ps.pow (S : Ps) (pw lf : Int) : Ps := { S with pw := pw, lf := lf }
def appP (S : Ps) (s : List UInt8) (l : List Nat) : Int × Ps :=
  match stepC S.pw S.lf with
  | (r, pw, lf) => if r = 2 then (200, S.pow pw lf) else
      if refuseC s l.length S.sz (lenP S.P) = 0 then (if r = 1 then 200 else 0, { S.pow pw lf with P := layP S.P s l })
      else (if r = 1 then 200 else refuseC s l.length S.sz (lenP S.P), S.pow pw lf)
def syncP (S : Ps) (s : List UInt8) : Int × Ps :=
  match stepC S.pw S.lf with
  | (r, pw, lf) => if r ≠ 0 then (200, S.pow pw lf) else
      match lookP S.P s with
      | some _ => (0, { S.pow pw lf with P := setP S.P s fun f => ⟨f.nm, f.l, f.l.length⟩ })
      | none => (5, S.pow pw lf)
def cutP (S : Ps) (n : Int) : Ps := if S.pw = 2 then S else if n < 0 then S.pow 0 0 else S.pow 1 n

theorem nxt_lt {w w' : World} {X : Nat → Prop} (h : ∀ k, X k → k < w.heap.size) (hs : w.heap.size ≤ w'.heap.size) (k : Nat) (hk : nxt X w w' k) : k < w'.heap.size := by
  rcases hk with hk | hk
  · exact Nat.lt_of_lt_of_le (h k hk) hs
  · exact hk.2
theorem Dsk.len {w : World} {X : Nat → Prop} {db : Nat} {S : Ps} (h : Dsk w X db S) {F : List Fl} (e : F.map Fl.pl = S.P) : ∀ f ∈ F, f.l.length ≤ 1000000000 := by
  intro f hf
  have h1 : f.pl ∈ S.P := by rw [← e]; exact List.mem_map.2 ⟨f, hf, rfl⟩
  have h2 := lenP_mem h1
  have h3 := h.room
  have h4 := h.size
  have h5 : f.pl.l.length = f.l.length := rfl
  omega
theorem Dsk.wx {w w' : World} {X Y : Nat → Prop} {db : Nat} {S : Ps} (h : Dsk w X db S) (k : Wx Y w w') (hY : ∀ i, X i → ¬ Y i) : Dsk w' X db S := by
  obtain ⟨mb, F, e, hD⟩ := h.lies
  exact ⟨⟨mb, F, e, hD.wx k hY⟩, h.room, h.size, h.pow, h.lf0, h.lf1⟩
theorem Dsk.below {w w' : World} {X : Nat → Prop} {db : Nat} {S : Ps} (h : Dsk w X db S) (k : Below w.heap.size w w') : Dsk w' X db S :=
  h.wx (Wx.of_below (fun _ => False) k) fun _ _ hf => hf
theorem Dsk.grow {w : World} {X Z : Nat → Prop} {db : Nat} {S : Ps} (h : Dsk w X db S) (h1 : ∀ k, X k → Z k) (h2 : ∀ k, Z k → k < w.heap.size) : Dsk w Z db S := by
  obtain ⟨mb, F, e, hD⟩ := h.lies
  exact ⟨⟨mb, F, e, hD.grow h1 h2⟩, h.room, h.size, h.pow, h.lf0, h.lf1⟩

/-- One file's cells are written. -/
theorem Dv.turn1 {w w' : World} {X : Nat → Prop} {db mb sz u : Nat} {pw lf : Int} {F : List Fl} (h : Dv w X db mb sz u pw lf F) {f : Fl} (hf : f ∈ F) {v : Value} {l : List Nat} {fa : Nat}
    (k : Wx (fun i => i = f.b ∨ f.v.ownBlock = some i) w w') (hb : w'.heap[f.b]? = some (.cells #[v, .int .i64 fa] 67 (0, 0))) (hr : FB w' v l) (hfa : fa ≤ l.length) (hv : v.ownBlock = f.v.ownBlock ∨ v.ownBlock = some w.heap.size) :
    Dv w' (nxt X w w') db mb sz u pw lf (setF F f.nm fun g => { g with l := l, fa := fa, v := v }) ∧ Wx X w w' :=
  h.turn hf k hb hr hfa hv (Wx.refl _ _) (k.blk (fun c => h.fs.apart h.blk db (Or.inr ⟨f, hf, c⟩) rfl) h.blk)
end Dk

set_option maxHeartbeats 1000000 in
theorem new_no (n : Int) (w : World) (h : n < 0 ∨ n > 67108864) : Calls Try.prog 7 #[.int .i64 n] w fun e w' => e = .returned (.tuple #[.pointer none, .int .i64 1]) ∧ w' = w := by
  by_cases c : n < 0
  · go_enter Try.func7, Try.ntmps7
    go_wp2
    go_ret2
    exact ⟨rfl, rfl⟩
  · have c2 : n > 67108864 := by omega
    go_enter Try.func7, Try.ntmps7
    go_wp2
    go_ret2
    exact ⟨rfl, rfl⟩
set_option maxHeartbeats 1000000 in
theorem new_any (n : Int) (w : World) (c : ¬ n < 0) (c2 : ¬ n > 67108864) : Calls Try.prog 7 #[.int .i64 n] w fun e w' =>
    e = .returned (.tuple #[.pointer (some ⟨w.heap.size + 1, 0, none⟩), .int .i64 0]) ∧ Dsk w' (fun k => k = w.heap.size ∨ k = w.heap.size + 1) (w.heap.size + 1) ⟨n.toNat, 0, 0, []⟩ ∧ Below w.heap.size w w' ∧ w'.heap.size = w.heap.size + 2 := by
  have hmm := @run_makeMap Try.prog
  have hn : ((n.toNat : Nat) : Int) = n := by omega
  have HE : Hid (∀ T, T = 59 → Dsk ((w.alloc (.map #[] 0)).alloc (.cells #[.int .i64 n, .int .i64 0, .map (some w.heap.size), .int .i64 0, .int .i64 0] T)) (fun k => k = w.heap.size ∨ k = w.heap.size + 1) (w.heap.size + 1) ⟨n.toNat, 0, 0, []⟩) := by
    rintro T rfl
    have e1 : (w.alloc (.map #[] 0)).heap.size = w.heap.size + 1 := by simp
    have hm := World.ownsMap_made w Try.prog 9 ptrR
    have hb := heap_alloc_new (w.alloc (.map #[] 0)) (.cells #[.int .i64 n, .int .i64 0, .map (some w.heap.size), .int .i64 0, .int .i64 0] 59)
    rw [e1] at hb
    refine ⟨⟨w.heap.size, [], rfl, ?_⟩, Nat.zero_le _, by show n.toNat ≤ _; omega, Or.inl rfl, Int.le_refl _, by show (0 : Int) ≤ _; omega⟩
    refine ⟨by simp only [hn]; exact hb, ⟨hm.alloc _, fun f h => (by cases h), fun f h => (by cases h), fun f h => (by cases h), List.Pairwise.nil, List.Pairwise.nil, fun f h => (by cases h)⟩, Or.inr rfl, ?_, ?_⟩
    · rintro k (rfl | ⟨f, hf, _⟩)
      · exact Or.inl rfl
      · cases hf
    · intro k hk
      have e2 : ((w.alloc (.map #[] 0)).alloc (.cells #[.int .i64 n, .int .i64 0, .map (some w.heap.size), .int .i64 0, .int .i64 0] 59)).heap.size = w.heap.size + 2 := by simp
      rw [e2]
      rcases hk with rfl | rfl <;> omega
  clear hn
  go_enter Try.func7, Try.ntmps7
  go_wp2
  go_ret2
  exact ⟨rfl, HE.out _ rfl, ((Below.refl _ _).alloc (Nat.le_refl _) _).alloc (by simp) _, by simp⟩

set_option maxHeartbeats 1000000 in
theorem cut_any (X : Nat → Prop) (db : Nat) (S : Ps) (n : Int) (w : World) (h : Dsk w X db S) (hn : n ≤ 9223372036854775807) :
    Calls Try.prog 17 #[.pointer (some ⟨db, 0, none⟩), .int .i64 n] w fun e w' => e = .returned (.tuple #[]) ∧ Dsk w' (nxt X w w') db (cutP S n) ∧ Wx X w w' := by
  obtain ⟨mb, F, eF, hD⟩ := h.lies
  obtain ⟨⟨c0, c1, c2, c3, c4⟩, fz⟩ := hD.cells
  have HN : Hid (∀ w' pw lf, Wx (fun i => i = db) w w' → w'.heap[db]? = some (.cells #[.int .i64 S.sz, .int .i64 (lenP S.P), .map (some mb), .int .i64 pw, .int .i64 lf] 59 (0, 0)) → (pw = 0 ∨ pw = 1 ∨ pw = 2) → 0 ≤ lf → lf ≤ 9223372036854775807 → Dsk w' (nxt X w w') db (S.pow pw lf) ∧ Wx X w w') := fun w' pw lf k hb h1 h2 h3 => by
    have hk : Wx X w w' := k.more fun i hi => Or.inl (by rw [hi]; exact hD.xd)
    have hd := hD.set k hb
    exact ⟨⟨⟨mb, F, eF, hd.grow (fun i hi => Or.inl hi) (nxt_lt hD.xlt hk.size)⟩, h.room, h.size, h1, h2, h3⟩, hk⟩
  have HB := hide_p hD.blk
  have H0 : Hid (Dsk w (nxt X w w) db S) := h.grow (fun i hi => Or.inl hi) (nxt_lt hD.xlt (Nat.le_refl _))
  clear hD h eF
  by_cases c : S.pw = 2
  · have e : cutP S n = S := by unfold cutP; rw [if_pos c]
    rw [e]
    rw [c] at c3
    go_enter Try.func17, Try.ntmps17
    go_wp2
    refine bodyPost_ret (results_none rfl _ _ _) rfl ?_
    exact ⟨rfl, H0.out, Wx.refl _ _⟩
  · have c' : (S.pw == 2) = false := by simpa using c
    by_cases d : n < 0
    · have e : cutP S n = S.pow 0 0 := by unfold cutP; rw [if_neg c, if_pos d]
      rw [e]
      have hB1 := heap_setCell_same _ db 3 _ _ (.int .i64 0) HB.out
      have HB2 := hide_p (heap_setCell_same _ db 4 _ _ (.int .i64 0) hB1)
      clear hB1
      go_enter Try.func17, Try.ntmps17
      go_wp2
      refine bodyPost_ret (results_none rfl _ _ _) rfl ?_
      obtain ⟨r1, r2⟩ := HN.out _ 0 0 ((Wx.set (X := fun i => i = db) w 3 (.int .i64 0) (k := db) rfl).trans (Wx.set (X := fun i => i = db) _ 4 (.int .i64 0) (k := db) rfl) fun i hi => Or.inl hi) HB2.out (Or.inl rfl) (Int.le_refl _) (by omega)
      exact ⟨rfl, r1, r2⟩
    · have e : cutP S n = S.pow 1 n := by unfold cutP; rw [if_neg c, if_neg d]
      rw [e]
      have hB1 := heap_setCell_same _ db 3 _ _ (.int .i64 1) HB.out
      have HB2 := hide_p (heap_setCell_same _ db 4 _ _ (.int .i64 n) hB1)
      clear hB1
      go_enter Try.func17, Try.ntmps17
      go_wp2
      go_end0
      obtain ⟨r1, r2⟩ := HN.out _ 1 n ((Wx.set (X := fun i => i = db) w 3 (.int .i64 1) (k := db) rfl).trans (Wx.set (X := fun i => i = db) _ 4 (.int .i64 n) (k := db) rfl) fun i hi => Or.inl hi) HB2.out (Or.inr (Or.inl rfl)) (by omega) hn
      exact ⟨rfl, r1, r2⟩

end Go.Proofs.Ytgkgflkcnigeaaa
