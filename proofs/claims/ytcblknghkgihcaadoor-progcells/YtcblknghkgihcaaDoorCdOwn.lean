/-
  Layer 7: the reference's Own, walked.
-/
import Derived.Test.YtcblknghkgihcaaDoorCdRow
namespace Go.Proofs.YtcblknghkgihcaaDoor
set_option maxRecDepth 100000
open Go.RowKit Crc

theorem info25b : (Tryd.prog.info? 33).map (fun i => (i.zero, i.size, i.bytes)) = some (some (.agg #[.int .i64 0, .int .u64 0, .string ⟨#[]⟩, .slice none 0 0]), 4, 56) := by kernel_rfl

theorem CS.form {w : World} {S : Nat → Prop} {t : Tr} {v : Value} (h : CS w S t v) : ∃ k n s a m cap, v = cellV k n s (.slice a m cap) := by
  cases h using CS.elim with
  | mk k n s ts a cap => exact ⟨k, n, s, a, _, cap, rfl⟩

theorem cells_quad (w : World) (k : Int) (n : Nat) (s : ByteArray) (u : Value) (t : TypeId) : ∀ j y, (quad k n s u)[j]? = some y → (w.alloc (.cells #[.int .i64 k, .int .u64 n, .string s, u] t)).cell? (Addr.add ⟨w.heap.size, 0, none⟩ j) = some y := by
  intro j y hy
  match j, hy with
  | 0, hy => rw [Addr_add_zero, World.cell?_alloc_new]; simpa [quad] using hy
  | 1, hy => rw [show Addr.add ⟨w.heap.size, 0, none⟩ 1 = ⟨w.heap.size, 1, none⟩ from rfl, World.cell?_alloc_new]; simpa [quad] using hy
  | 2, hy => rw [show Addr.add ⟨w.heap.size, 0, none⟩ 2 = ⟨w.heap.size, 2, none⟩ from rfl, World.cell?_alloc_new]; simpa [quad] using hy
  | 3, hy => rw [show Addr.add ⟨w.heap.size, 0, none⟩ 3 = ⟨w.heap.size, 3, none⟩ from rfl, World.cell?_alloc_new]; simpa [quad] using hy
  | j + 4, hy => simp [quad] at hy

/-- A row is a list. -/
theorem TWz.cs {Z : World → Nat → Prop} {w : World} {B N cap : Nat} {a : Option Addr} {ts : List Tr} (h : TWz Z w B (.slice a N cap) ts) (hz : ∀ g, (Value.slice a N cap).ownBlock = some g → Z w g) (hN : N = ts.length) (k : Int) (n : Nat) (s : ByteArray) (hk : -9223372036854775808 ≤ k ∧ k ≤ 9223372036854775807) (hn : n < 18446744073709551616) (hs : s.size ≤ 9223372036854775807) :
    CS w (fun k => B ≤ k ∧ Z w k) (.mk k n s ts) (cellV k n s (.slice a N cap)) := by
  obtain ⟨xs, ks, ns, ss, us, h1, h2, h3⟩ := h
  subst hN
  have h4 := h1
  rcases h1.2 with ⟨e, e2⟩ | ⟨g, cap', cur, e, hb, _, hl, hc, _⟩
  · simp only [Value.slice.injEq] at e
    obtain ⟨rfl, _, rfl⟩ := e
    have e3 : ts = [] := List.eq_nil_of_length_eq_zero e2
    subst e3
    exact CS.mk k n s [] none 0 ks ns ss us hk hn hs (Nat.le_refl _) (by decide) (fun _ => rfl) (fun x e => by cases e) (fun x i e => by cases e) (fun i h => absurd h (Nat.not_lt_zero _))
  · simp only [Value.slice.injEq] at e
    obtain ⟨rfl, _, rfl⟩ := e
    unfold maxLen at hc
    refine CS.mk k n s ts _ cap ks ns ss us hk hn hs hl (by omega) (fun e => by cases e) (fun x e _ => by cases e; exact ⟨hb, hz g rfl⟩) (fun x i e hi => ?_) (fun i hi => (h3 i hi).widen (fun k hk => ⟨hk.1, hk.2.2.2⟩))
    cases e
    refine ⟨rfl, ?_, ?_, ?_, ?_⟩
    · simp only [Nat.zero_add]; rw [h4.cellAt _ (by omega)]; exact h2.q0 i hi
    · simp only [Nat.zero_add]; rw [h4.cellAt _ (by omega)]; exact h2.q1 i hi
    · simp only [Nat.zero_add]; rw [h4.cellAt _ (by omega)]; exact h2.q2 i hi
    · simp only [Nat.zero_add]; rw [h4.cellAt _ (by omega)]; exact h2.q3 i hi

theorem TW.cs {w : World} {B N cap : Nat} {a : Option Addr} {ts : List Tr} (h : TW w B (.slice a N cap) ts) (hN : N = ts.length) (k : Int) (n : Nat) (s : ByteArray) (hk : -9223372036854775808 ≤ k ∧ k ≤ 9223372036854775807) (hn : n < 18446744073709551616) (hs : s.size ≤ 9223372036854775807) :
    CS w (fun k => B ≤ k) (.mk k n s ts) (cellV k n s (.slice a N cap)) :=
  (TWz.cs (Z := fun _ _ => True) h (fun _ _ => trivial) hN k n s hk hn hs).widen (fun _ hk => hk.1)

theorem ownsRow_uf {w : World} {B e s n g : Nat} {v : Value} {xs : List Value} (h : w.ownsRow B e s v n xs) (hv : v.ownBlock = some g) : Uf w g := by
  rcases h.2 with ⟨e1, _⟩ | ⟨g', cap, cur, e1, _, hg, _⟩
  · rw [e1] at hv; cases hv
  · rw [e1] at hv
    simp [Value.ownBlock] at hv
    subst hv
    intro j
    unfold World.frozen?
    simp [hg]

set_option maxHeartbeats 2000000 in
theorem own_cell_u : ∀ (D : Nat) (t : Tr) (v : Value) (w : World), t.dep < D → t.cnt ≤ 1000000 → CR w t v →
    Calls Tryd.prog 18 #[v] w fun e w' => ∃ v', e = .returned v' ∧ CS w' (fun k => w.heap.size ≤ k ∧ Uf w' k) t v' ∧ Below w.heap.size w w' := by
  intro D
  induction D with
  | zero => intro t v w h; omega
  | succ D ih =>
    intro t v w hD hcnt h
    cases h using CR.elim with
    | mk k n s ts a cap ks ns ss us hk hn hs hl hc h0 hx hr =>
    unfold cellV
    obtain ⟨i0, hi0, hz0, hz1, hz2⟩ := info_parts info25b
    obtain ⟨N, hN⟩ : ∃ N, N = ts.length := ⟨_, rfl⟩
    have HN : Hid (N = ts.length) := hN
    have HD : Hid (deps ts < D + 1) := by rw [Tr.dep_mk] at hD; exact hD
    have HR : Hid (∀ i (h : i < ts.length), CR w ts[i] (cellV (ks i) (ns i) (ss i) (us i))) := hr
    have HX : Hid (∀ x i, a = some x → i < ts.length → x.spot = none ∧ Lies w x.block x.off i (ks i) (ns i) (ss i) (us i)) := hx
    have H0 : Hid (a = none → ts = []) := h0
    have HI : Hid _ := ih
    have HCN : Hid (1 + cnts ts ≤ 1000000) := by rw [Tr.cnt_mk] at hcnt; exact hcnt
    rw [← hN]
    rw [← hN] at hl
    obtain ⟨w0, hw0⟩ : ∃ w0, w0 = ((w.alloc (.cells #[.int .i64 k, .int .u64 n, .string s, .slice a N cap] 33)).alloc (.cells #[.int .i64 0, .int .u64 0, .string ⟨#[]⟩, .slice none 0 0] 33)).alloc (.cells #[] 33) := ⟨_, rfl⟩
    clear hr hx h0 ih hD hN hcnt
    go_enter Tryd.func18, Tryd.ntmps18
    go_wp2_with fail
    rw [← hw0]
    have hs0 : w0.heap.size = w.heap.size + 3 := by rw [hw0]; simp
    have HB0 : Hid (Below w.heap.size w w0) := by
      rw [hw0]
      exact (((Below.refl _ w).alloc (Nat.le_refl _) _).alloc (by simp) _).alloc (by simp; omega) _
    have HT0 : Hid (TWz Uf w0 (w.heap.size + 2) (.slice (some ⟨w.heap.size + 1 + 1, 0, none⟩) 0 0) []) := by
      refine ⟨[], fun _ => 0, fun _ => 0, fun _ => ⟨#[]⟩, fun _ => .slice none 0 0, ?_, ⟨fun i h => absurd h (Nat.not_lt_zero _), fun i h => absurd h (Nat.not_lt_zero _), fun i h => absurd h (Nat.not_lt_zero _), fun i h => absurd h (Nat.not_lt_zero _)⟩, fun i h => absurd h (Nat.not_lt_zero _)⟩
      have := World.ownsRow_made (e := 33) (size := 4) (base := w.heap.size + 2) ((w.alloc (.cells #[.int .i64 k, .int .u64 n, .string s, .slice a N cap] 33)).alloc (.cells #[.int .i64 0, .int .u64 0, .string ⟨#[]⟩, .slice none 0 0] 33)) #[] 0 (by simp) (by decide) rfl
      rw [← hw0] at this
      simpa using this
    have G : ∀ j, w0.cell? ⟨w.heap.size, j, none⟩ = (#[.int .i64 k, .int .u64 n, .string s, .slice a N cap] : Array Value)[j]? := by
      intro j
      rw [hw0, World.cell?_alloc_lt _ _ _ (by simp; omega), World.cell?_alloc_lt _ _ _ (by simp), World.cell?_alloc_new]
    have G2 : ∀ j, w0.cell? ⟨w.heap.size + 1, j, none⟩ = (#[.int .i64 0, .int .u64 0, .string ⟨#[]⟩, .slice none 0 0] : Array Value)[j]? := by
      intro j
      rw [hw0, World.cell?_alloc_lt _ _ _ (by simp), World.cell?_alloc_at _ _ _ _ (by simp)]
    have K2 : w0.heap[w.heap.size + 1]? = some (.cells #[.int .i64 0, .int .u64 0, .string ⟨#[]⟩, .slice none 0 0] 33 (0, 0)) := by
      rw [hw0, Below.heap_alloc _ _ _ (by simp)]
      have := heap_alloc_new (w.alloc (.cells #[.int .i64 k, .int .u64 n, .string s, .slice a N cap] 33)) (.cells #[.int .i64 0, .int .u64 0, .string ⟨#[]⟩, .slice none 0 0] 33)
      simpa using this
    have F1 : ∀ j, w0.frozen? ⟨w.heap.size, j, none⟩ = false := by
      intro j
      rw [hw0, World.frozen?_alloc_past _ _ _ (by simp; omega), World.frozen?_alloc_past _ _ _ (by simp), World.frozen?_alloc_at _ _ _ _ rfl]
    have F2 : ∀ j, w0.frozen? ⟨w.heap.size + 1, j, none⟩ = false := by
      intro j
      rw [hw0, World.frozen?_alloc_past _ _ _ (by simp), World.frozen?_alloc_at _ _ _ _ (by simp)]
    have g0 : w0.cell? ⟨w.heap.size, 3, none⟩ = some (.slice a N cap) := G 3
    clear hw0
    go_loopw [3, 4] (fun t3 t4 wr => ∃ (i : Nat), i ≤ N ∧ t4 = .int .i64 i ∧ Hid (TWz Uf wr (w.heap.size + 2) t3 (ts.take i)) ∧ Hid (Below (w.heap.size + 2) w0 wr)) (fun _ t4 _ => N - (intOf t4).toNat)
    case atStart => exact ⟨0, Nat.zero_le _, rfl, HT0, Below.refl _ _⟩
    case round =>
      obtain ⟨i, hi, rfl, HT, HW⟩ := hrel
      have hsz := HW.out.size
      have HBW : Hid (Below w.heap.size w wr) := HB0.out.trans (HW.out.mono (by omega))
      have b0 : wr.cell? ⟨w.heap.size, 3, none⟩ = some (.slice a N cap) := by
        rw [← g0]
        exact HW.out.cell (p := ⟨w.heap.size, 3, none⟩) (show w.heap.size < w.heap.size + 2 by omega)
      by_cases c : i < N
      · have i1 : i < ts.length := by rw [← HN.out]; exact c
        obtain ⟨x, hx⟩ : ∃ x, a = some x := by
          cases a with
          | some x => exact ⟨x, rfl⟩
          | none => rw [H0.out rfl] at i1; exact absurd i1 (by simp)
        subst hx
        obtain ⟨hsp, hli⟩ := HX.out x i rfl i1
        obtain ⟨g, o, sp⟩ := x
        simp only at hsp
        subst hsp
        obtain ⟨l0, l1, l2, l3⟩ := hli.below HBW.out (Nat.le_refl _)
        have hct := cnts_take ts i i1
        have hcl : cnts (ts.take (i + 1)) ≤ cnts ts := by
          have := cnts_append (ts.take (i + 1)) (ts.drop (i + 1))
          rw [List.take_append_drop] at this
          omega
        have hcall := HI.out ts[i] _ wr (by have := deps_get i i1; have := HD.out; omega) (by have := HCN.out; omega) ((HR.out i i1).kept HBW.out (Nat.le_refl _))
        unfold cellV at hcall
        clear hli hct hcl
        go_wp2_with fail
        refine hcall.mono ?_
        rintro e w2 ⟨v2, rfl, hcs, hb2⟩
        obtain ⟨k2, n2, s2, a2, m2, cap2, rfl⟩ := hcs.form
        have hlen : (ts.take i).length = i := by rw [List.length_take]; omega
        obtain ⟨xs, ho1, ho2, hnext⟩ := HT.out.snocK (fun _ _ _ => Uf.same) (B := w.heap.size + 2) (w1 := w2) (by omega) hb2.size (fun k _ hk => hb2.block k hk) hcs (.cells #[.int .i64 k2, .int .u64 n2, .string s2, .slice a2 m2 cap2] 33)
        rw [hlen] at ho2
        have HNX : Hid (∀ (w3 : World) (g cap : Nat), _) := hnext
        have HBX : Hid (Below wr.heap.size wr w2) := hb2
        have hsz2 := hb2.size
        have hi9 : i < 1000000 := by
          have h1 : ∀ l : List Tr, l.length ≤ cnts l := by
            intro l
            induction l with
            | nil => simp [cnts_nil]
            | cons t l ih => simp only [cnts_cons, List.length_cons]; have := cnt_pos t; omega
          have := h1 ts
          have := HCN.out
          omega
        unfold cellV
        clear hnext ho1 hcs hb2 hcall l0 l1 l2 l3
        go_wp2_with (at_builtin; refine wpList_append_lies _ rfl _ _ 31 rfl (w.heap.size + 2) 33 i0 _ 4 56 Tryd.underlying31 hi0 hz0 hz1 hz2 rfl (by decide) _ i xs rfl ho2 ⟨w2.heap.size, 0, none⟩ 1 1 (quad k2 n2 s2 (.slice a2 m2 cap2)) rfl rfl (cells_quad _ _ _ _ _ _) (by intro u hu; simp [quad] at hu; rcases hu with rfl | rfl | rfl | rfl <;> rfl) (by decide) (by unfold maxLen; omega) (by omega) (by simp; omega) _ rfl ?_)
        intro g3 cap3 w3 hown3 hgrow3 hat3 _
        have HT3 : Hid (TWz Uf w3 (w.heap.size + 2) (.slice (some ⟨g3, 0, none⟩) (i + 1) cap3) (ts.take (i + 1))) := by
          have := HNX.out w3 g3 cap3 (by rw [hlen]; exact hown3) hgrow3 (by simpa using hat3)
          rw [hlen] at this
          show TWz _ _ _ _ _
          rw [List.take_succ_eq_append_getElem i1]
          exact this
        have HW3 : Hid (Below (w.heap.size + 2) w0 w3) := by
          have k1 : Below (w.heap.size + 2) w0 w2 := HW.out.trans (HBX.out.mono (by omega))
          refine (k1.alloc (by omega) _).grown hgrow3 (by simp; omega) (fun k hk => (ho2.lt k hk).1)
        clear hown3 hgrow3 hat3 ho2
        go_wp2
        go_roundw
        case rel => exact ⟨i + 1, by omega, by go_num, HT3, HW3⟩
        case measure => simp [intOf]; omega
      · have e : i = N := by omega
        subst e
        have et : ts.take i = ts := by rw [HN.out, List.take_length]
        rw [et] at HT
        obtain ⟨a3, cap3, e3⟩ : ∃ a3 cap3, u3 = .slice a3 i cap3 := by
          obtain ⟨xs, _, _, _, _, h1, _⟩ := HT.out
          rw [← HN.out] at h1
          rcases h1.2 with ⟨e, e2⟩ | ⟨g, cap, _, e, _⟩
          · exact ⟨none, 0, by rw [e2]; exact e⟩
          · exact ⟨some ⟨g, 0, none⟩, cap, e⟩
        subst e3
        have c0 : wr.cell? ⟨w.heap.size, 0, none⟩ = some (.int .i64 k) := (HW.out.cell (p := ⟨w.heap.size, 0, none⟩) (show w.heap.size < w.heap.size + 2 by omega)).trans (G 0)
        have c1 : wr.cell? ⟨w.heap.size, 1, none⟩ = some (.int .u64 n) := (HW.out.cell (p := ⟨w.heap.size, 1, none⟩) (show w.heap.size < w.heap.size + 2 by omega)).trans (G 1)
        have c2 : wr.cell? ⟨w.heap.size, 2, none⟩ = some (.string s) := (HW.out.cell (p := ⟨w.heap.size, 2, none⟩) (show w.heap.size < w.heap.size + 2 by omega)).trans (G 2)
        have d0 : wr.cell? ⟨w.heap.size + 1, 0, none⟩ = some (.int .i64 0) := (HW.out.cell (p := ⟨w.heap.size + 1, 0, none⟩) (show w.heap.size + 1 < w.heap.size + 2 by omega)).trans (G2 0)
        have d1 : wr.cell? ⟨w.heap.size + 1, 1, none⟩ = some (.int .u64 0) := (HW.out.cell (p := ⟨w.heap.size + 1, 1, none⟩) (show w.heap.size + 1 < w.heap.size + 2 by omega)).trans (G2 1)
        have d2 : wr.cell? ⟨w.heap.size + 1, 2, none⟩ = some (.string ⟨#[]⟩) := (HW.out.cell (p := ⟨w.heap.size + 1, 2, none⟩) (show w.heap.size + 1 < w.heap.size + 2 by omega)).trans (G2 2)
        have d3 : wr.cell? ⟨w.heap.size + 1, 3, none⟩ = some (.slice none 0 0) := (HW.out.cell (p := ⟨w.heap.size + 1, 3, none⟩) (show w.heap.size + 1 < w.heap.size + 2 by omega)).trans (G2 3)
        have hfz : ∀ k, k < w.heap.size + 2 → ∀ j, wr.frozen? ⟨k, j, none⟩ = w0.frozen? ⟨k, j, none⟩ := by
          intro k hk j
          have := HW.out.block k hk
          unfold World.frozen?
          simp only [this]
        have f1 : wr.frozen? ⟨w.heap.size, 3, none⟩ = false := (hfz _ (by omega) 3).trans (F1 3)
        have e0 : wr.frozen? ⟨w.heap.size + 1, 0, none⟩ = false := (hfz _ (by omega) 0).trans (F2 0)
        have e1 : wr.frozen? ⟨w.heap.size + 1, 1, none⟩ = false := (hfz _ (by omega) 1).trans (F2 1)
        have e2 : wr.frozen? ⟨w.heap.size + 1, 2, none⟩ = false := (hfz _ (by omega) 2).trans (F2 2)
        have e3 : wr.frozen? ⟨w.heap.size + 1, 3, none⟩ = false := (hfz _ (by omega) 3).trans (F2 3)
        have K3 : wr.heap[w.heap.size + 1]? = some (.cells #[.int .i64 0, .int .u64 0, .string ⟨#[]⟩, .slice none 0 0] 33 (0, 0)) := (HW.out.block _ (by omega)).trans K2
        have HQ := HT.out.cs (fun g hg => by obtain ⟨xs, _, _, _, _, h1, _⟩ := HT.out; exact ownsRow_uf h1 hg) HN.out k n s hk hn hs
        have HK : Hid (∀ W : World, W = ((((wr.setCell ⟨w.heap.size, 3, none⟩ (.slice a3 i cap3)).setCell ⟨w.heap.size + 1, 0, none⟩ (.int .i64 k)).setCell ⟨w.heap.size + 1, 1, none⟩ (.int .u64 n)).setCell ⟨w.heap.size + 1, 2, none⟩ (.string s)).setCell ⟨w.heap.size + 1, 3, none⟩ (.slice a3 i cap3) →
            W.heap[w.heap.size + 1]? = some (.cells #[.int .i64 k, .int .u64 n, .string s, .slice a3 i cap3] 33 (0, 0)) ∧ CS W (fun k => w.heap.size ≤ k ∧ Uf W k) (.mk k n s ts) (cellV k n s (.slice a3 i cap3)) ∧ Below w.heap.size w W) := by
          intro W hW
          subst hW
          refine ⟨?_, ?_, ?_⟩
          · have z0 := (heap_setCell_other wr ⟨w.heap.size, 3, none⟩ (w.heap.size + 1) (.slice a3 i cap3) (by simp)).trans K3
            have z1 := heap_setCell_same _ _ 0 _ _ (.int .i64 k) z0
            have z2 := heap_setCell_same _ _ 1 _ _ (.int .u64 n) z1
            have z3 := heap_setCell_same _ _ 2 _ _ (.string s) z2
            have z4 := heap_setCell_same _ _ 3 _ _ (.slice a3 i cap3) z3
            exact z4
          · have hfar : ∀ q, w.heap.size + 2 ≤ q → ((((((wr.setCell ⟨w.heap.size, 3, none⟩ (.slice a3 i cap3)).setCell ⟨w.heap.size + 1, 0, none⟩ (.int .i64 k)).setCell ⟨w.heap.size + 1, 1, none⟩ (.int .u64 n)).setCell ⟨w.heap.size + 1, 2, none⟩ (.string s)).setCell ⟨w.heap.size + 1, 3, none⟩ (.slice a3 i cap3)).heap[q]? = wr.heap[q]?) := by
              intro q hq
              rw [heap_setCell_other _ _ _ _ (by simp; omega), heap_setCell_other _ _ _ _ (by simp; omega), heap_setCell_other _ _ _ _ (by simp; omega), heap_setCell_other _ _ _ _ (by simp; omega), heap_setCell_other _ _ _ _ (by simp; omega)]
            exact (HQ.kept (fun k hk => hfar k hk.1)).widen (fun k hk => ⟨by omega, Uf.same (hfar k hk.1) hk.2⟩)
          · exact ((((HBW.out.setCell (by simp) _).setCell (by simp) _).setCell (by simp) _).setCell (by simp) _).setCell (by simp) _
        clear G g0 G2 F1 F2 hfz K2 K3 HQ
        go_wp2
        obtain ⟨y1, y2, y3⟩ := HK.out _ rfl
        exact bodyPost_ret (results_cell_row rfl _ _ (w.heap.size + 1) _ _ _ _ rfl y1 Tryd.underlying33 rfl info25) rfl ⟨_, rfl, y2, y3⟩

theorem own_cell (D : Nat) (t : Tr) (v : Value) (w : World) (h1 : t.dep < D) (h2 : t.cnt ≤ 1000000) (h3 : CR w t v) :
    Calls Tryd.prog 18 #[v] w fun e w' => ∃ v', e = .returned v' ∧ CS w' (fun k => w.heap.size ≤ k) t v' ∧ Below w.heap.size w w' :=
  (own_cell_u D t v w h1 h2 h3).mono fun _ _ ⟨v', e, q, b⟩ => ⟨v', e, q.widen (fun _ hk => hk.1), b⟩

end Go.Proofs.YtcblknghkgihcaaDoor
