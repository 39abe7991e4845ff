/-
  Layer 7: the landed reader's cell, walked.
-/
import Derived.Test.YtjngknnkffbnmaaDoorGC2
namespace Go.Proofs.YtjngknnkffbnmaaDoor
set_option maxRecDepth 100000
open Go.RowKit Crc

/-- The block of a result that is an api.Cell, as it is made. -/
def Rc (w : World) (q : Nat) : Prop := w.heap[q]? = some (.cells #[.int .i64 0, .int .u64 0, .string ⟨#[]⟩, .slice none 0 0] 26 (0, 0))

theorem Rc.cell {w : World} {q : Nat} (h : Rc w q) (j : Nat) : w.cell? ⟨q, j, none⟩ = (#[.int .i64 0, .int .u64 0, .string ⟨#[]⟩, .slice none 0 0] : Array Value)[j]? := cell_of_row w q j _ _ _ h
theorem Rc.free {w : World} {q : Nat} (h : Rc w q) (j : Nat) : w.frozen? ⟨q, j, none⟩ = false := by
  unfold Rc at h
  unfold World.frozen?
  simp [h]
theorem Rc.kr {b q : Nat} {w w' : World} (h : Rc w q) (k : KR b w w') (hq : q < w.heap.size) (hb : q ≠ b) : Rc w' q := (k.block q hq hb).trans h
theorem Rc.set {w W : World} {q : Nat} (h : Rc w q) (k : Int) (n : Nat) (s : ByteArray) (u : Value) (hW : W = (((w.setCell ⟨q, 0, none⟩ (.int .i64 k)).setCell ⟨q, 1, none⟩ (.int .u64 n)).setCell ⟨q, 2, none⟩ (.string s)).setCell ⟨q, 3, none⟩ u) :
    W.heap[q]? = some (.cells #[.int .i64 k, .int .u64 n, .string s, u] 26 (0, 0)) ∧ ∀ j, j ≠ q → W.heap[j]? = w.heap[j]? := by
  subst hW
  refine ⟨?_, fun j hj => ?_⟩
  · have z1 := heap_setCell_same _ _ 0 _ _ (.int .i64 k) h
    have z2 := heap_setCell_same _ _ 1 _ _ (.int .u64 n) z1
    have z3 := heap_setCell_same _ _ 2 _ _ (.string s) z2
    have z4 := heap_setCell_same _ _ 3 _ _ u z3
    exact z4
  · rw [heap_setCell_other _ _ _ _ hj, heap_setCell_other _ _ _ _ hj, heap_setCell_other _ _ _ _ hj, heap_setCell_other _ _ _ _ hj]

theorem CS_flat (w : World) (S : Nat → Prop) (k : Int) (n : Nat) (s : ByteArray) (hk : -9223372036854775808 ≤ k ∧ k ≤ 9223372036854775807) (hn : n < 18446744073709551616) (hs : s.size ≤ 9223372036854775807) : CS w S (.mk k n s []) (cellV k n s (.slice none 0 0)) :=
  CS.mk k n s [] none 0 (fun _ => 0) (fun _ => 0) (fun _ => ⟨#[]⟩) (fun _ => .slice none 0 0) hk hn hs (Nat.le_refl _) (by decide) (fun _ => rfl) (fun x e => by cases e) (fun x i e => by cases e) (fun i h => absurd h (Nat.not_lt_zero _))

/-- The result laid, all else as it was. -/
theorem laid_end {b H q : Nat} {w w6 W : World} {t : Tr} {k : Int} {n : Nat} {s : ByteArray} {u v2 : Value} {l2 : List Nat} (hrc : Rc w6 q) (hW : W = (((w6.setCell ⟨q, 0, none⟩ (.int .i64 k)).setCell ⟨q, 1, none⟩ (.int .u64 n)).setCell ⟨q, 2, none⟩ (.string s)).setCell ⟨q, 3, none⟩ u)
    (hq : q = w.heap.size) (hb : q ≠ b) (hH : H ≤ q) (hkr : KR b w w6) (hrd : RD w6 b H v2 l2) (hl : l2.length ≤ 1048576) (hcs : CS w6 (fun k => w.heap.size ≤ k ∧ k ≠ q) t (cellV k n s u)) :
    W.heap[q]? = some (.cells #[.int .i64 k, .int .u64 n, .string s, u] 26 (0, 0)) ∧ Readd (.inr (t, l2)) b H w (.returned (.agg #[.int .i64 k, .int .u64 n, .string s, u])) W := by
  obtain ⟨h1, h2⟩ := hrc.set k n s u hW
  refine ⟨h1, _, v2, rfl, (hcs.kept (w' := W) (fun k hk => h2 k hk.2)).widen (fun k hk => hk.1), ?_, ?_, hl⟩
  · subst hW
    exact (((hrd.setNew hb hH _).setNew hb hH _).setNew hb hH _).setNew hb hH _
  · subst hW
    exact (((hkr.setNew (by omega) _).setNew (by omega) _).setNew (by omega) _).setNew (by omega) _

set_option maxHeartbeats 4000000 in
theorem rcell_of (b H D : Nat) (hD : D ≤ 64) (HC : ∀ D', D = D' + 1 → ∀ (v : Value) (l : List Nat) (w : World), RD w b H v l → H ≤ w.heap.size → l.length ≤ 1048576 → Calls Tryd.prog 57 #[.pointer (some ⟨b, 0, none⟩), .int .i64 (64 - (D' : Int))] w (Readd (decT D' l) b H w))
    (v : Value) (l : List Nat) (w : World) (h : RD w b H v l) (hH : H ≤ w.heap.size) (hl : l.length ≤ 1048576) :
    Calls Tryd.prog 57 #[.pointer (some ⟨b, 0, none⟩), .int .i64 (64 - (D : Int))] w (Readd (decT D l) b H w) := by
  obtain ⟨d, hd⟩ : ∃ d : Int, d = 64 - (D : Int) := ⟨_, rfl⟩
  rw [← hd]
  have HD : Hid (d = 64 - (D : Int)) := hd
  have HHC : Hid _ := HC
  clear hd HC
  obtain ⟨w1, hw1⟩ : ∃ w1, w1 = w.alloc (.cells #[.int .i64 0, .int .u64 0, .string ⟨#[]⟩, .slice none 0 0] 26) := ⟨_, rfl⟩
  have hs1 : w1.heap.size = w.heap.size + 1 := by rw [hw1]; simp
  have hlt := h.lt
  have HRC : Hid (Rc w1 w.heap.size) := by show Rc _ _; rw [hw1]; exact heap_alloc_new _ _
  have HK1 : Hid (KR b w w1) := by show KR _ _ _; rw [hw1]; exact KR.alloc _ _ _
  have h1 : RD w1 b H v l := by rw [hw1]; exact h.alloc _
  cases l with
  | nil =>
    have htake := take_short b H 1 v [] w1 h1 (by simp)
    have HQ : Hid (Readd (decT D []) b H w (gaveUp 3) w1) := by
      show Readd _ _ _ _ _ _
      unfold decT
      exact ⟨rfl, HK1.out⟩
    clear h h1
    go_enter Tryd.func57, Tryd.ntmps57
    go_wp2_with fail
    rw [← hw1]
    clear hw1
    refine htake.mono ?_
    rintro e w2 ⟨rfl, rfl⟩
    clear htake
    unfold gaveUp at HQ ⊢
    go_wp2
    exact ⟨rfl, HQ.out⟩
  | cons k l =>
    have htake := take_ok b H 1 v (k :: l) w1 h1 (by simp)
    simp only [List.take_succ_cons, List.take_zero, List.drop_succ_cons, List.drop_zero] at htake
    have hll : l.length + 1 ≤ 1048576 := by simpa using hl
    clear h h1 hl
    obtain ⟨r, hr⟩ : ∃ r, r = decT D (k :: l) := ⟨_, rfl⟩
    rw [← hr]
    have HR : Hid (r = decT D (k :: l)) := hr
    clear hr
    go_enter Tryd.func57, Tryd.ntmps57
    go_wp2_with fail
    rw [← hw1]
    clear hw1
    refine htake.mono ?_
    rintro e w2 ⟨v1, v2, rfl, hw2, hb2, hr2⟩
    have HK2 : Hid (KR b w w2) := HK1.out.trans (by rw [hw2]; exact KR.set _ _ _ _)
    have HRC2 : Hid (Rc w2 w.heap.size) := HRC.out.kr (by rw [hw2]; exact KR.set _ _ _ _) (by omega) (by omega)
    have hs2 : w2.heap.size = w.heap.size + 1 := by rw [hw2, World.size_setCell]; exact hs1
    clear htake hw2
    obtain ⟨a, cap, rfl⟩ : ∃ a cap, v1 = .slice a 1 cap := by obtain ⟨_, a, cap, e, _⟩ := hb2; exact ⟨a, cap, e⟩
    obtain ⟨x, rfl, hcell, hk8⟩ := hb2.cell (i := 0) (by simp)
    rw [Addr_add_zero] at hcell
    simp only [List.getD_cons_zero] at hcell hk8
    have HRD : Hid (RD w2 b H v2 l) := hr2
    clear hb2 hr2
    by_cases k0 : k = 0
    · subst k0
      by_cases c8 : l.length < 8
      · have hnum := rnumber_short b H 8 v2 l w2 HRD.out c8
        have HQ : Hid (Readd r b H w (gaveUp 3) w2) := by
          show Readd r b H w _ _
          rw [HR.out]; unfold decT; rw [if_pos rfl, if_pos c8]
          exact ⟨rfl, HK2.out⟩
        go_wp2_with fail
        refine hnum.mono ?_
        rintro e w3 ⟨rfl, rfl⟩
        clear hnum
        unfold gaveUp at HQ ⊢
        go_wp2
        exact ⟨rfl, HQ.out⟩
      · have hnum := rnumber_ok b H 8 v2 l w2 HRD.out (by omega) (by decide)
        go_wp2_with fail
        refine hnum.mono ?_
        rintro e w3 ⟨rfl, v3, hw3, hr3⟩
        have HK3 : Hid (KR b w w3) := HK2.out.trans (by rw [hw3]; exact KR.set _ _ _ _)
        have HRC3 : Hid (Rc w3 w.heap.size) := HRC2.out.kr (by rw [hw3]; exact KR.set _ _ _ _) (by omega) (by omega)
        have hs3 : w3.heap.size = w.heap.size + 1 := by rw [hw3, World.size_setCell]; exact hs2
        have HR3 : Hid (RD w3 b H v3 (l.drop 8)) := hr3
        clear hnum hw3 hr3
        have HN : Hid (nb (l.take 8) < 18446744073709551616) := nb_lt HRD.out.br.1 8 (by omega)
        obtain ⟨N, hN⟩ : ∃ N, N = nb (l.take 8) := ⟨_, rfl⟩
        have HNN : Hid (N = nb (l.take 8)) := hN
        rw [← hN] at HN ⊢
        clear hN
        have hmk := cnumber_any N w3
        go_wp2_with fail
        refine hmk.mono ?_
        rintro e w4 ⟨rfl, hb4⟩
        clear hmk
        have hs4 := hb4.size
        have hrc4 : Rc w4 w.heap.size := HRC3.out.kr (b := b) (KR.of hb4) (by omega) (by omega)
        have c0 := hrc4.cell 0
        have c1 := hrc4.cell 1
        have c2 := hrc4.cell 2
        have c3 := hrc4.cell 3
        have f0 := hrc4.free 0
        have f1 := hrc4.free 1
        have f2 := hrc4.free 2
        have f3 := hrc4.free 3
        have HE : Hid (∀ W : World, W = (((w4.setCell ⟨w.heap.size, 0, none⟩ (.int .i64 0)).setCell ⟨w.heap.size, 1, none⟩ (.int .u64 N)).setCell ⟨w.heap.size, 2, none⟩ (.string ⟨#[]⟩)).setCell ⟨w.heap.size, 3, none⟩ (.slice none 0 0) → W.heap[w.heap.size]? = some (.cells #[.int .i64 0, .int .u64 N, .string ⟨#[]⟩, .slice none 0 0] 26 (0, 0)) ∧ Readd r b H w (.returned (.agg #[.int .i64 0, .int .u64 N, .string ⟨#[]⟩, .slice none 0 0])) W) := by
          intro W hW
          have e : r = .inr (.mk 0 N ⟨#[]⟩ [], l.drop 8) := by rw [HR.out]; unfold decT; rw [if_pos rfl, if_neg c8, HNN.out]
          rw [e]
          exact laid_end hrc4 hW rfl (by omega) hH (HK3.out.trans (KR.of hb4)) (HR3.out.below hb4) (by rw [List.length_drop]; omega) (CS_flat _ _ 0 N ⟨#[]⟩ (by decide) HN.out (by decide))
        clear hrc4 hb4
        unfold cellV
        go_wp2
        obtain ⟨y1, y2⟩ := HE.out _ rfl
        exact bodyPost_ret (results_cell_row rfl _ _ w.heap.size _ _ _ _ rfl y1 Tryd.underlying26 rfl info25) rfl y2
    · by_cases k1 : k = 1
      · subst k1
        by_cases c4 : l.length < 4
        · have hnum := count_short b H v2 l w2 HRD.out c4
          have HQ : Hid (Readd r b H w (gaveUp 3) w2) := by
            show Readd r b H w _ _
            rw [HR.out]; unfold decT; rw [if_neg (by decide), if_pos rfl, if_pos c4]
            exact ⟨rfl, HK2.out⟩
          go_wp2_with fail
          refine hnum.mono ?_
          rintro e w3 ⟨rfl, rfl⟩
          clear hnum
          unfold gaveUp at HQ ⊢
          go_wp2
          exact ⟨rfl, HQ.out⟩
        · by_cases c5 : l.length - 4 < nb (l.take 4)
          · have hnum := count_over b H v2 l w2 HRD.out (by omega) c5 (by omega)
            have HQ : Hid (∀ w3, KR b w w3 → Readd r b H w (gaveUp 3) w3) := by
              intro w3 hk
              rw [HR.out]; unfold decT; rw [if_neg (by decide), if_pos rfl, if_neg c4, if_pos c5]
              exact ⟨rfl, hk⟩
            clear c5
            go_wp2_with fail
            refine hnum.mono ?_
            rintro e w3 ⟨rfl, v3, hw3⟩
            have HQ2 : Hid (Readd r b H w (gaveUp 3) w3) := HQ.out w3 (HK2.out.trans (by rw [hw3]; exact KR.set _ _ _ _))
            clear hnum hw3
            unfold gaveUp at HQ2 ⊢
            go_wp2
            exact ⟨rfl, HQ2.out⟩
          · have hnum := count_ok b H v2 l w2 HRD.out (by omega) (by omega) (by omega)
            have HE0 : Hid (r = .inr (.mk 1 0 (bsN ((l.drop 4).take (nb (l.take 4)))) [], (l.drop 4).drop (nb (l.take 4)))) := by
              show _ = _
              rw [HR.out]; unfold decT; rw [if_neg (by decide), if_pos rfl, if_neg c4, if_neg c5]
            have HNl : Hid (nb (l.take 4) ≤ l.length - 4) := by show _ ≤ _; omega
            clear c5
            obtain ⟨N, hN⟩ : ∃ N, N = nb (l.take 4) := ⟨_, rfl⟩
            rw [← hN] at HE0 hnum HNl
            clear hN
            go_wp2_with fail
            refine hnum.mono ?_
            rintro e w3 ⟨rfl, v3, hw3, hr3⟩
            have HK3 : Hid (KR b w w3) := HK2.out.trans (by rw [hw3]; exact KR.set _ _ _ _)
            have HRC3 : Hid (Rc w3 w.heap.size) := HRC2.out.kr (by rw [hw3]; exact KR.set _ _ _ _) (by omega) (by omega)
            have hs3 : w3.heap.size = w.heap.size + 1 := by rw [hw3, World.size_setCell]; exact hs2
            have htk := take_ok b H N v3 (l.drop 4) w3 hr3 (by rw [List.length_drop]; exact HNl.out)
            clear hnum hw3 hr3
            go_wp2_with fail
            refine htk.mono ?_
            rintro e w5 ⟨v5, v6, rfl, hw5, hb5, hr5⟩
            have HK5 : Hid (KR b w w5) := HK3.out.trans (by rw [hw5]; exact KR.set _ _ _ _)
            have HRC5 : Hid (Rc w5 w.heap.size) := HRC3.out.kr (by rw [hw5]; exact KR.set _ _ _ _) (by omega) (by omega)
            have hs5 : w5.heap.size = w.heap.size + 1 := by rw [hw5, World.size_setCell]; exact hs3
            have HR5 : Hid (RD w5 b H v6 ((l.drop 4).drop N)) := hr5
            have hcv := conv_any hb5
            have HTS : Hid ((bsN ((l.drop 4).take N)).size ≤ 9223372036854775807) := by show _ ≤ _; rw [bsN_size, List.length_take, List.length_drop]; omega
            have HTL : Hid (((l.drop 4).drop N).length ≤ 1048576) := by show _ ≤ _; rw [List.length_drop, List.length_drop]; omega
            generalize bsN ((l.drop 4).take N) = T at *
            generalize (l.drop 4).drop N = L2 at *
            clear htk hw5 hb5 hr5
            have hmk := ctext_any T w5
            go_wp2_with fail
            refine hmk.mono ?_
            rintro e w4 ⟨rfl, hb4⟩
            clear hmk hcv
            have hs4 := hb4.size
            have hrc4 : Rc w4 w.heap.size := HRC5.out.kr (b := b) (KR.of hb4) (by omega) (by omega)
            have c0 := hrc4.cell 0
            have c1 := hrc4.cell 1
            have c2 := hrc4.cell 2
            have c3 := hrc4.cell 3
            have f0 := hrc4.free 0
            have f1 := hrc4.free 1
            have f2 := hrc4.free 2
            have f3 := hrc4.free 3
            have HE : Hid (∀ W : World, W = (((w4.setCell ⟨w.heap.size, 0, none⟩ (.int .i64 1)).setCell ⟨w.heap.size, 1, none⟩ (.int .u64 (0 : Nat))).setCell ⟨w.heap.size, 2, none⟩ (.string T)).setCell ⟨w.heap.size, 3, none⟩ (.slice none 0 0) → W.heap[w.heap.size]? = some (.cells #[.int .i64 1, .int .u64 (0 : Nat), .string T, .slice none 0 0] 26 (0, 0)) ∧ Readd r b H w (.returned (.agg #[.int .i64 1, .int .u64 (0 : Nat), .string T, .slice none 0 0])) W) := by
              intro W hW
              rw [HE0.out]
              exact laid_end hrc4 hW rfl (by omega) hH (HK5.out.trans (KR.of hb4)) (HR5.out.below hb4) HTL.out (CS_flat _ _ 1 0 T (by decide) (by decide) HTS.out)
            clear hrc4 hb4
            unfold cellV
            go_wp2
            obtain ⟨y1, y2⟩ := HE.out _ rfl
            exact bodyPost_ret (results_cell_row rfl _ _ w.heap.size _ _ _ _ rfl y1 Tryd.underlying26 rfl info25) rfl y2
      · by_cases k2 : k = 2
        · subst k2
          cases D with
          | zero =>
            have hd : d = 64 := HD.out
            have HQ : Hid (Readd r b H w (gaveUp 2) w2) := by
              show Readd r b H w _ _
              rw [HR.out]; unfold decT; rw [if_neg (by decide), if_neg (by decide), if_pos rfl]
              exact ⟨rfl, HK2.out⟩
            unfold gaveUp at HQ
            go_wp2
            exact ⟨rfl, HQ.out⟩
          | succ D =>
            have hd : ¬ d = 64 := by have := HD.out; omega
            have hd2 : d + 1 = 64 - (D : Int) := by have := HD.out; omega
            have hd3 : 0 ≤ d ∧ d ≤ 63 := by have := HD.out; omega
            by_cases c4 : l.length < 4
            · have hnum := count_short b H v2 l w2 HRD.out c4
              have HQ : Hid (Readd r b H w (gaveUp 3) w2) := by
                show Readd r b H w _ _
                rw [HR.out]; unfold decT; rw [if_neg (by decide), if_neg (by decide), if_pos rfl]; simp only [if_pos c4]
                exact ⟨rfl, HK2.out⟩
              go_wp2_with fail
              refine hnum.mono ?_
              rintro e w3 ⟨rfl, rfl⟩
              clear hnum
              unfold gaveUp at HQ ⊢
              go_wp2
              exact ⟨rfl, HQ.out⟩
            · by_cases c5 : l.length - 4 < nb (l.take 4)
              · have hnum := count_over b H v2 l w2 HRD.out (by omega) c5 (by omega)
                have HQ : Hid (∀ w3, KR b w w3 → Readd r b H w (gaveUp 3) w3) := by
                  intro w3 hk
                  rw [HR.out]; unfold decT; rw [if_neg (by decide), if_neg (by decide), if_pos rfl]; simp only [if_neg c4, if_pos c5]
                  exact ⟨rfl, hk⟩
                clear c5
                go_wp2_with fail
                refine hnum.mono ?_
                rintro e w3 ⟨rfl, v3, hw3⟩
                have HQ2 : Hid (Readd r b H w (gaveUp 3) w3) := HQ.out w3 (HK2.out.trans (by rw [hw3]; exact KR.set _ _ _ _))
                clear hnum hw3
                unfold gaveUp at HQ2 ⊢
                go_wp2
                exact ⟨rfl, HQ2.out⟩
              · have hnum := count_ok b H v2 l w2 HRD.out (by omega) (by omega) (by omega)
                have HE0 : Hid (r = match decL (decT D) (nb (l.take 4)) (l.drop 4) with
                    | .inl x => .inl x
                    | .inr (ts, l2) => .inr (.mk 2 0 ⟨#[]⟩ ts, l2)) := by
                  show _ = _
                  rw [HR.out]; conv => lhs; unfold decT
                  rw [if_neg (by decide), if_neg (by decide), if_pos rfl]; simp only [if_neg c4, if_neg c5]
                  cases decL (decT D) (nb (l.take 4)) (l.drop 4) <;> rfl
                have hNl : nb (l.take 4) ≤ 1048576 := by omega
                clear c5
                obtain ⟨N, hN⟩ : ∃ N, N = nb (l.take 4) := ⟨_, rfl⟩
                rw [← hN] at HE0 hnum hNl
                clear hN
                go_wp2_with fail
                refine hnum.mono ?_
                rintro e w3 ⟨rfl, v3, hw3, hr3⟩
                have HK3 : Hid (KR b w w3) := HK2.out.trans (by rw [hw3]; exact KR.set _ _ _ _)
                have HRC3 : Hid (Rc w3 w.heap.size) := HRC2.out.kr (by rw [hw3]; exact KR.set _ _ _ _) (by omega) (by omega)
                have hs3 : w3.heap.size = w.heap.size + 1 := by rw [hw3, World.size_setCell]; exact hs2
                have htk := rcells_any b H D (HHC.out D rfl) N v3 (l.drop 4) w3 hr3 (by omega) (by rw [List.length_drop]; omega) hNl _ rfl
                rw [← hd2] at htk
                clear hnum hw3 hr3 hd2
                generalize decL (decT D) N (l.drop 4) = E at htk HE0
                go_wp2_with fail
                refine htk.mono ?_
                intro e w5 hrl
                clear htk
                cases E with
                | inl y =>
                  obtain ⟨rfl, hk5⟩ := hrl
                  have HQ : Hid (Readd r b H w (gaveUp y) w5) := by
                    show Readd r b H w _ _
                    rw [HE0.out]
                    exact ⟨rfl, HK3.out.trans hk5⟩
                  clear hk5
                  unfold gaveUp at HQ ⊢
                  go_wp2
                  exact ⟨rfl, HQ.out⟩
                | inr p =>
                  obtain ⟨ts, L2⟩ := p
                  obtain ⟨lv, v5, rfl, q1, q2, q3, q4⟩ := hrl
                  simp only at q1 q2 q4
                  obtain ⟨a5, c5, rfl⟩ : ∃ a5 c5, lv = .slice a5 ts.length c5 := by
                    obtain ⟨xs, _, _, _, _, h1, _⟩ := q1
                    exact ownsRow_slice h1
                  have hrc4 : Rc w5 w.heap.size := HRC3.out.kr q3 (by omega) (by omega)
                  have c0 := hrc4.cell 0
                  have c1 := hrc4.cell 1
                  have c2 := hrc4.cell 2
                  have c3 := hrc4.cell 3
                  have f0 := hrc4.free 0
                  have f1 := hrc4.free 1
                  have f2 := hrc4.free 2
                  have f3 := hrc4.free 3
                  have HE : Hid (∀ W : World, W = (((w5.setCell ⟨w.heap.size, 0, none⟩ (.int .i64 2)).setCell ⟨w.heap.size, 1, none⟩ (.int .u64 (0 : Nat))).setCell ⟨w.heap.size, 2, none⟩ (.string ⟨#[]⟩)).setCell ⟨w.heap.size, 3, none⟩ (.slice a5 ts.length c5) → W.heap[w.heap.size]? = some (.cells #[.int .i64 2, .int .u64 (0 : Nat), .string ⟨#[]⟩, .slice a5 ts.length c5] 26 (0, 0)) ∧ Readd r b H w (.returned (.agg #[.int .i64 2, .int .u64 (0 : Nat), .string ⟨#[]⟩, .slice a5 ts.length c5])) W) := by
                    intro W hW
                    rw [HE0.out]
                    exact laid_end hrc4 hW rfl (by omega) hH (HK3.out.trans q3) q2 q4 ((q1.cs rfl 2 0 ⟨#[]⟩ (by decide) (by decide) (by decide)).widen (fun k hk => by omega))
                  clear hrc4 q1 q2 q3 q4
                  go_wp2
                  obtain ⟨y1, y2⟩ := HE.out _ rfl
                  exact bodyPost_ret (results_cell_row rfl _ _ w.heap.size _ _ _ _ rfl y1 Tryd.underlying26 rfl info25) rfl y2
        · have HQ : Hid (Readd r b H w (gaveUp 4) w2) := by
            show Readd r b H w _ _
            rw [HR.out]; unfold decT; rw [if_neg k0, if_neg k1, if_neg k2]
            exact ⟨rfl, HK2.out⟩
          unfold gaveUp at HQ
          have k0i : ¬ (k : Int) = 0 := by omega
          have k1i : ¬ (k : Int) = 1 := by omega
          have k2i : ¬ (k : Int) = 2 := by omega
          go_wp2
          exact ⟨rfl, HQ.out⟩

theorem rcell_any (b H : Nat) : ∀ (D : Nat), D ≤ 64 → ∀ (v : Value) (l : List Nat) (w : World), RD w b H v l → H ≤ w.heap.size → l.length ≤ 1048576 →
    Calls Tryd.prog 57 #[.pointer (some ⟨b, 0, none⟩), .int .i64 (64 - (D : Int))] w (Readd (decT D l) b H w)
  | 0, h => rcell_of b H 0 h (fun D' e => by omega)
  | D + 1, h => rcell_of b H (D + 1) h (fun D' e => by
      obtain rfl : D' = D := by omega
      exact rcell_any b H D' (by omega))

end Go.Proofs.YtjngknnkffbnmaaDoor
