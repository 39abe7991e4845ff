/-
  Layer 19: the landed EntryCell, walked.
-/
import Derived.Test.YtjngknnkffbnmaaDoorSnRegq
import Derived.Test.YtjngknnkffbnmaaDoorSnRef4q
import Derived.Test.YtjngknnkffbnmaaDoorGL
namespace Go.Proofs.YtjngknnkffbnmaaDoor
set_option maxRecDepth 100000
open Go.RowKit Crc Sn

namespace Sn
theorem ent_cp (x : Ent) : (entL x).map cpT = entL x := by
  unfold entL
  rw [List.map_append]
  have e1 : ([.mk 0 x.tm nob [], numT x.kd] : List Tr).map cpT = [.mk 0 x.tm nob [], numT x.kd] := by
    simp only [List.map_cons, List.map_nil, numT, cpT_mk]
    rfl
  rw [e1]
  congr 1
  split
  · simp only [List.map_cons, List.map_nil, cpT_mk]; rfl
  · split
    · simp only [List.map_cons, List.map_nil]
      congr 1
      unfold memT lisT
      rw [cpT_mk, if_neg (by decide), if_neg (by decide), if_pos rfl, cpL_map, List.map_map]
      have : x.ms.map (cpT ∘ numT) = x.ms.map numT := List.map_congr_left (fun y _ => by simp only [Function.comp, numT, cpT_mk]; rfl)
      rw [this]
      rfl
    · rfl
theorem ent_cnt {x : Ent} (h : x.kd = 2 → x.ms.length ≤ 64) : cnts (entL x) ≤ 1000000 := by
  have hn : ∀ l : List Int, cnts (l.map numT) = l.length := by
    intro l
    induction l with
    | nil => simp [cnts_nil]
    | cons a l ih => rw [List.map_cons, cnts_cons, ih, List.length_cons]; unfold numT; rw [Tr.cnt_mk, cnts_nil]; omega
  have hm : (memT x.ms).cnt = 1 + x.ms.length := by unfold memT lisT; rw [Tr.cnt_mk, hn]
  unfold entL
  split
  · simp only [List.cons_append, List.nil_append, cnts_cons, cnts_nil, numT, Tr.cnt_mk]; omega
  · split
    · next k2 =>
      have := h k2
      simp only [List.cons_append, List.nil_append, cnts_cons, cnts_nil, numT, Tr.cnt_mk, hm]
      omega
    · simp only [List.cons_append, List.nil_append, cnts_cons, cnts_nil, numT, Tr.cnt_mk]; omega
theorem keep9 {w w' : World} {a1 a2 a3 a4 a5 a6 a7 a8 a9 : Addr} {u1 u2 u3 u4 u5 u6 u7 u8 u9 : Value} (h : w.cell? a1 = some u1 ∧ w.cell? a2 = some u2 ∧ w.cell? a3 = some u3 ∧ w.cell? a4 = some u4 ∧ w.cell? a5 = some u5 ∧ w.cell? a6 = some u6 ∧ w.cell? a7 = some u7 ∧ w.cell? a8 = some u8 ∧ w.cell? a9 = some u9) (k : Below w.heap.size w w') :
    w'.cell? a1 = some u1 ∧ w'.cell? a2 = some u2 ∧ w'.cell? a3 = some u3 ∧ w'.cell? a4 = some u4 ∧ w'.cell? a5 = some u5 ∧ w'.cell? a6 = some u6 ∧ w'.cell? a7 = some u7 ∧ w'.cell? a8 = some u8 ∧ w'.cell? a9 = some u9 := by
  obtain ⟨h1, h2, h3, h4, h5, h6, h7, h8, h9⟩ := h
  exact ⟨cell_kept k (Nat.le_refl _) h1, cell_kept k (Nat.le_refl _) h2, cell_kept k (Nat.le_refl _) h3, cell_kept k (Nat.le_refl _) h4, cell_kept k (Nat.le_refl _) h5, cell_kept k (Nat.le_refl _) h6, cell_kept k (Nat.le_refl _) h7, cell_kept k (Nat.le_refl _) h8, cell_kept k (Nat.le_refl _) h9⟩
theorem keep9s {w : World} {b e j g4 g5 : Nat} {u1 u2 u3 u4 u5 u6 u7 u8 u9 v0 v1 v2 v3 : Value} (h : w.cell? ⟨e, j, none⟩ = some u1 ∧ w.cell? ⟨g4, 0, none⟩ = some u2 ∧ w.cell? ⟨g4, 1, none⟩ = some u3 ∧ w.cell? ⟨g4, 2, none⟩ = some u4 ∧ w.cell? ⟨g4, 3, none⟩ = some u5 ∧ w.cell? ⟨g5, 0, none⟩ = some u6 ∧ w.cell? ⟨g5, 1, none⟩ = some u7 ∧ w.cell? ⟨g5, 2, none⟩ = some u8 ∧ w.cell? ⟨g5, 3, none⟩ = some u9) (he : ¬ e = b) (h4 : ¬ g4 = b) (h5 : ¬ g5 = b) :
    ((((w.setCell ⟨b, 0, none⟩ v0).setCell ⟨b, 1, none⟩ v1).setCell ⟨b, 2, none⟩ v2).setCell ⟨b, 3, none⟩ v3).cell? ⟨e, j, none⟩ = some u1 ∧ ((((w.setCell ⟨b, 0, none⟩ v0).setCell ⟨b, 1, none⟩ v1).setCell ⟨b, 2, none⟩ v2).setCell ⟨b, 3, none⟩ v3).cell? ⟨g4, 0, none⟩ = some u2 ∧ ((((w.setCell ⟨b, 0, none⟩ v0).setCell ⟨b, 1, none⟩ v1).setCell ⟨b, 2, none⟩ v2).setCell ⟨b, 3, none⟩ v3).cell? ⟨g4, 1, none⟩ = some u3 ∧ ((((w.setCell ⟨b, 0, none⟩ v0).setCell ⟨b, 1, none⟩ v1).setCell ⟨b, 2, none⟩ v2).setCell ⟨b, 3, none⟩ v3).cell? ⟨g4, 2, none⟩ = some u4 ∧ ((((w.setCell ⟨b, 0, none⟩ v0).setCell ⟨b, 1, none⟩ v1).setCell ⟨b, 2, none⟩ v2).setCell ⟨b, 3, none⟩ v3).cell? ⟨g4, 3, none⟩ = some u5 ∧ ((((w.setCell ⟨b, 0, none⟩ v0).setCell ⟨b, 1, none⟩ v1).setCell ⟨b, 2, none⟩ v2).setCell ⟨b, 3, none⟩ v3).cell? ⟨g5, 0, none⟩ = some u6 ∧ ((((w.setCell ⟨b, 0, none⟩ v0).setCell ⟨b, 1, none⟩ v1).setCell ⟨b, 2, none⟩ v2).setCell ⟨b, 3, none⟩ v3).cell? ⟨g5, 1, none⟩ = some u7 ∧ ((((w.setCell ⟨b, 0, none⟩ v0).setCell ⟨b, 1, none⟩ v1).setCell ⟨b, 2, none⟩ v2).setCell ⟨b, 3, none⟩ v3).cell? ⟨g5, 2, none⟩ = some u8 ∧ ((((w.setCell ⟨b, 0, none⟩ v0).setCell ⟨b, 1, none⟩ v1).setCell ⟨b, 2, none⟩ v2).setCell ⟨b, 3, none⟩ v3).cell? ⟨g5, 3, none⟩ = some u9 := by
  obtain ⟨h1, h2, h3, h4', h5', h6, h7, h8, h9⟩ := h
  have ko : ∀ (k i : Nat) (u : Value), ¬ k = b → w.cell? ⟨k, i, none⟩ = some u → ((((w.setCell ⟨b, 0, none⟩ v0).setCell ⟨b, 1, none⟩ v1).setCell ⟨b, 2, none⟩ v2).setCell ⟨b, 3, none⟩ v3).cell? ⟨k, i, none⟩ = some u := fun k i u hk hc => (World.cell?_of_block (w := w) (a := ⟨k, i, none⟩) (set4_other hk v0 v1 v2 v3)).trans hc
  exact ⟨ko _ _ _ he h1, ko _ _ _ h4 h2, ko _ _ _ h4 h3, ko _ _ _ h4 h4', ko _ _ _ h4 h5', ko _ _ _ h5 h6, ko _ _ _ h5 h7, ko _ _ _ h5 h8, ko _ _ _ h5 h9⟩
end Sn

set_option maxHeartbeats 2000000 in
theorem lEntryCell_any (x : Ent) (v : Value) (w : World) (hm : NR w v x.ms) (htm : x.tm < 18446744073709551616) (hdt : x.dt.size ≤ 9223372036854775807) :
    Calls Tryd.prog 17 #[.agg #[.int .u64 x.tm, .int .i64 x.kd, .string x.dt, v]] w (EcR w x) := by
  obtain ⟨a, cap, rfl, -, -, -, -⟩ := hm.form
  have HMB : Hid (∀ w', Below w.heap.size w w' → Calls Tryd.prog 12 #[.slice a x.ms.length cap] w' fun e w'' => e = .returned (.bool (memB x.ms)) ∧ Below w'.heap.size w' w'') := fun w' hb => lMembers_any x.ms _ w' (hm.kept hb (Nat.le_refl _))
  have HMC : Hid (memB x.ms = true → ∀ w', Below w.heap.size w w' → Calls Tryd.prog 28 #[.slice a x.ms.length cap] w' (Copd (memT x.ms) w')) := fun hmb w' hb => membersCell_any x.ms _ w' (hm.kept hb (Nat.le_refl _)) (by have := mem_len hmb; omega)
  have HN1 : Hid (∀ (n : Nat) (w : World), Calls Tryd.prog 27 #[.int .u64 n] w fun e w' => e = .returned (.agg #[.int .i64 0, .int .u64 n, .string nob, .slice none 0 0]) ∧ Below w.heap.size w w') := cnumber_any
  have HTX : Hid (∀ w' : World, Calls Tryd.prog 43 #[.string x.dt] w' fun e w'' => e = .returned (cellV 1 0 x.dt (.slice none 0 0)) ∧ Below w'.heap.size w' w'') := fun w' => ctext_any x.dt w'
  have HLS : Hid ((x.kd = 2 → x.ms.length ≤ 64) → ∀ (w' : World) (a' : Option Addr) (n' c' : Nat), n' = (entL x).length → CR w' (lisT (entL x)) (cellV 2 0 nob (.slice a' n' c')) → Calls Tryd.prog 42 #[.slice a' n' c'] w' (Copd (lisT (entL x)) w')) := by
    intro h2 w' a' n' c' hn hc
    subst hn
    have := list_any (entL x) a' c' 2 0 nob w' (ent_cnt h2) hc
    rw [ent_cp] at this
    exact this
  have HBAD : Hid (∀ (E : Int) (w1 W : World) (x0 x1 x2 x3 : Value), entE x = E → ¬ E = 0 → w1.heap[w.heap.size + 1]? = some (.cells #[x0, x1, x2, x3] 26 (0, 0)) → Below w.heap.size w w1 → W = (((w1.setCell ⟨w.heap.size + 1, 0, none⟩ (.int .i64 0)).setCell ⟨w.heap.size + 1, 1, none⟩ (.int .u64 (0 : Nat))).setCell ⟨w.heap.size + 1, 2, none⟩ (.string nob)).setCell ⟨w.heap.size + 1, 3, none⟩ (.slice none 0 0) →
    W.heap[w.heap.size + 1]? = some (.cells #[.int .i64 0, .int .u64 (0 : Nat), .string nob, .slice none 0 0] 26 (0, 0)) ∧ EcR w x (.returned (.tuple #[.agg #[.int .i64 0, .int .u64 (0 : Nat), .string nob, .slice none 0 0], .int .i64 E])) W) := fun E w1 W x0 x1 x2 x3 h1 h2 h3 h4 h5 => ec_bad h1 h2 h3 (Nat.le_succ _) h4 h5
  have HGOOD : Hid (∀ (w5 W : World) (B : Nat) (k : Int) (n : Nat) (s : ByteArray) (a : Option Addr) (m c : Nat) (x0 x1 x2 x3 : Value), entE x = 0 → w5.heap[w.heap.size + 1]? = some (.cells #[x0, x1, x2, x3] 26 (0, 0)) → w.heap.size + 1 < B → Below w.heap.size w w5 → CS w5 (fun k => B ≤ k) (lisT (entL x)) (.agg #[.int .i64 k, .int .u64 n, .string s, .slice a m c]) → W = (((w5.setCell ⟨w.heap.size + 1, 0, none⟩ (.int .i64 k)).setCell ⟨w.heap.size + 1, 1, none⟩ (.int .u64 n)).setCell ⟨w.heap.size + 1, 2, none⟩ (.string s)).setCell ⟨w.heap.size + 1, 3, none⟩ (.slice a m c) →
    W.heap[w.heap.size + 1]? = some (.cells #[.int .i64 k, .int .u64 n, .string s, .slice a m c] 26 (0, 0)) ∧ EcR w x (.returned (.tuple #[.agg #[.int .i64 k, .int .u64 n, .string s, .slice a m c], .int .i64 0])) W) := by
    intro w5 W B k n s a m c x0 x1 x2 x3 h1 h2 h3 h4 h5 h6
    obtain ⟨rfl, rfl, rfl, -⟩ := crTop h5.cr
    exact ec_good h1 h2 (Nat.le_succ _) h3 h4 h5 h6
  have HTM := hide_p htm
  have HDT := hide_p hdt
  have HLEN : Hid (memB x.ms = true → x.ms.length ≤ 64) := fun h => (mem_len h).2
  have HED : Hid (entE x = if x.kd < 0 ∨ x.kd > 2 then 1 else if x.kd = 2 then (if memB x.ms = true then 0 else 1) else if x.kd = 1 then (if x.dt.size > 65536 then 2 else 0) else 0) := rfl
  have HEL : Hid (entL x = [.mk 0 x.tm nob [], numT x.kd] ++ (if x.kd = 1 then [.mk 1 0 x.dt []] else if x.kd = 2 then [memT x.ms] else [])) := rfl
  obtain ⟨P, hP⟩ : ∃ P, P = EcR w x := ⟨_, rfl⟩
  rw [← hP] at HBAD HGOOD ⊢
  clear hm htm hdt hP
  generalize entE x = EE at *
  generalize entL x = EL at *
  generalize memT x.ms = MT at *
  generalize memB x.ms = MB at *
  generalize x.ms.length = nm at *
  generalize x.tm = tm at *
  generalize x.kd = kd at *
  generalize x.dt = dt at *
  obtain ⟨w1, hw1⟩ : ∃ w1, w1 = (w.alloc (.cells #[.int .u64 tm, .int .i64 kd, .string dt, .slice a nm cap] 46)).alloc (.cells #[.int .i64 0, .int .u64 0, .string ⟨#[]⟩, .slice none 0 0] 26) := ⟨_, rfl⟩
  have HS1 : Hid (w1.heap.size = w.heap.size + 2) := by show _ = _; rw [hw1]; simp
  have HB1 : Hid (Below w.heap.size w w1) := by show Below _ _ _; rw [hw1]; exact ((Below.refl _ _).alloc (Nat.le_refl _) _).alloc (by simp) _
  have HA1 : Hid (w1.heap[w.heap.size]? = some (.cells #[.int .u64 tm, .int .i64 kd, .string dt, .slice a nm cap] 46 (0, 0)) ∧ w1.heap[w.heap.size + 1]? = some (.cells #[.int .i64 0, .int .u64 0, .string ⟨#[]⟩, .slice none 0 0] 26 (0, 0))) := by
    show _ ∧ _
    rw [hw1]
    exact ⟨by rw [Below.heap_alloc _ _ _ (by simp)]; exact heap_alloc_new _ _, heap_alloc_at _ _ _ (by simp)⟩
  have HY : Hid (∀ wq, Below w1.heap.size w1 wq → wq.heap[w.heap.size]? = some (.cells #[.int .u64 tm, .int .i64 kd, .string dt, .slice a nm cap] 46 (0, 0)) ∧ wq.heap[w.heap.size + 1]? = some (.cells #[.int .i64 0, .int .u64 0, .string ⟨#[]⟩, .slice none 0 0] 26 (0, 0)) ∧ Below w.heap.size w wq) := fun wq hq => by
    have := HS1.out
    exact ⟨(hq.block _ (by omega)).trans HA1.out.1, (hq.block _ (by omega)).trans HA1.out.2, HB1.out.trans (hq.mono (by omega))⟩
  have hx := uw_wrap kd
  go_enter Tryd.func17, Tryd.ntmps17
  go_upto_region 1 with fail
  rw [← hw1]
  clear hw1
  go_cut [4, 5] (fun t4 t5 wc => ∃ g4 g5, t4 = .pointer (some ⟨g4, 0, none⟩) ∧ t5 = .pointer (some ⟨g5, 0, none⟩) ∧ Hid (w1.heap.size ≤ g4 ∧ w1.heap.size ≤ g5 ∧ wc.heap[g4]? = some (.cells #[.int .i64 0, .int .u64 tm, .string nob, .slice none 0 0] 26 (0, 0)) ∧ wc.heap[g5]? = some (.cells #[.int .i64 0, .int .u64 (uw kd), .string nob, .slice none 0 0] 26 (0, 0)) ∧ Below w1.heap.size w1 wc))
  case first =>
    refine wp_region_inv2 (by kernel_rfl) [6, 7, 8, 9, 10, 11, 12, 4, 5] (fun L vs w' => ∃ (v6 : Value) (v7 : Value) (v8 : Value) (v9 : Value) (v10 : Value) (v11 : Value) (v12 : Value) (v4 : Value) (v5 : Value), vs = [v6, v7, v8, v9, v10, v11, v12, v4, v5] ∧ (L 0 = true → v6 = (.pointer (some ⟨w.heap.size, 0, none⟩))) ∧ (L 1 = true → v7 = (.int .u64 tm)) ∧ (L 2 = true → v8 = (.agg #[.int .i64 0, .int .u64 tm, .string nob, .slice none 0 0])) ∧ (L 3 = true → v9 = (.pointer (some ⟨w.heap.size, 1, none⟩))) ∧ (L 4 = true → v10 = (.int .i64 kd)) ∧ (L 5 = true → v11 = (.int .u64 (uw kd))) ∧ (L 6 = true → v12 = (.agg #[.int .i64 0, .int .u64 (uw kd), .string nob, .slice none 0 0])) ∧ (L 1 = true → L 0 = true) ∧ (L 2 = true → L 1 = true) ∧ (L 4 = true → L 3 = true) ∧ (L 5 = true → L 4 = true) ∧ (L 6 = true → L 2 = true ∧ L 5 = true) ∧ (L 9 = true → L 2 = true ∧ L 6 = true ∧ L 7 = true) ∧ (L 10 = true → L 6 = true ∧ L 8 = true ∧ L 9 = true) ∧ Hid (Below w1.heap.size w1 w') ∧ Hid (L 7 = true → L 9 = false → Bx w' w1.heap.size v4 #[.int .i64 0, .int .u64 0, .string ⟨#[]⟩, .slice none 0 0] 26) ∧ Hid (L 9 = true → Bx w' w1.heap.size v4 #[.int .i64 0, .int .u64 tm, .string nob, .slice none 0 0] 26) ∧ Hid (L 8 = true → L 10 = false → Bx w' w1.heap.size v5 #[.int .i64 0, .int .u64 0, .string ⟨#[]⟩, .slice none 0 0] 26) ∧ Hid (L 10 = true → Bx w' w1.heap.size v5 #[.int .i64 0, .int .u64 (uw kd), .string nob, .slice none 0 0] 26) ∧ Hid (L 7 = true → L 8 = true → v4 ≠ v5)) (by kernel_rfl) (by decide) (by simp) ?_ ⟨?_, ?_, ?_, ?_, ?_, ?_, ?_, ?_, ?_, ?_, ?_, trivial⟩ ?_
    · exact ⟨_, _, _, _, _, _, _, _, _, rfl, fun q => by (cases q), fun q => by (cases q), fun q => by (cases q), fun q => by (cases q), fun q => by (cases q), fun q => by (cases q), fun q => by (cases q), fun q => by (cases q), fun q => by (cases q), fun q => by (cases q), fun q => by (cases q), fun q => by (cases q), fun q => by (cases q), fun q => by (cases q), ((Below.refl _ _).drew), (fun a0 a1 => absurd (show false = true from a0) (by decide)), (fun a0 => absurd (show false = true from a0) (by decide)), (fun a0 a1 => absurd (show false = true from a0) (by decide)), (fun a0 => absurd (show false = true from a0) (by decide)), (fun a0 a1 => absurd (show false = true from a0) (by decide))⟩
    · rintro A L vs w' F G ⟨v6, v7, v8, v9, v10, v11, v12, v4, v5, rfl, d0, d1, d2, d3, d4, d5, d6, m1, m2, m4, m5, m6, m9, m10, HB, Z4, F4, Z5, F5, D⟩ hL hdep K' hK hK0
      have n1 : L 1 = false := not_yet hL (fun q => (m1 q))
      have n2 : L 2 = false := not_yet hL (fun q => (m1 ((m2 q))))
      have n6 : L 6 = false := not_yet hL (fun q => (m1 ((m2 ((m6 q).1)))))
      have n9 : L 9 = false := not_yet hL (fun q => (m1 ((m2 ((m9 q).1)))))
      have n10 : L 10 = false := not_yet hL (fun q => (m1 ((m2 ((m6 ((m10 q).1)).1)))))
      have gt : A.tmps[1]?.getD undef = .pointer (some ⟨w.heap.size, 0, none⟩) := evT ((G 1 (by decide)).trans rfl)
      clear F G
      go_simp
      refine hK 0 6 _ w' rfl ⟨_, _, _, _, _, _, _, _, _, rfl, (fun _ => rfl), d1, d2, d3, d4, d5, d6, (fun q => laterT (m1 q)), (fun q => laterT (m2 q)), (fun q => laterT (m4 q)), (fun q => laterT (m5 q)), (fun q => ⟨laterT (m6 q).1, laterT (m6 q).2⟩), (fun q => ⟨laterT (m9 q).1, laterT (m9 q).2.1, laterT (m9 q).2.2⟩), (fun q => ⟨laterT (m10 q).1, laterT (m10 q).2.1, laterT (m10 q).2.2⟩), HB, Z4, (fun a0 => absurd (show L 9 = true from a0) (by rw [n9]; decide)), Z5, (fun a0 => absurd (show L 10 = true from a0) (by rw [n10]; decide)), D⟩
    · rintro A L vs w' F G ⟨v6, v7, v8, v9, v10, v11, v12, v4, v5, rfl, d0, d1, d2, d3, d4, d5, d6, m1, m2, m4, m5, m6, m9, m10, HB, Z4, F4, Z5, F5, D⟩ hL hdep K' hK hK0
      have p0 : L 0 = true := hdep { on := 0, ground := Ground.data } (by simp) rfl
      have n2 : L 2 = false := not_yet hL (fun q => (m2 q))
      have n6 : L 6 = false := not_yet hL (fun q => (m2 ((m6 q).1)))
      have n9 : L 9 = false := not_yet hL (fun q => (m2 ((m9 q).1)))
      have n10 : L 10 = false := not_yet hL (fun q => (m2 ((m6 ((m10 q).1)).1)))
      have h1 := (HY.out w' HB.out).1
      obtain ⟨b0, b1, b2, b3⟩ := block4 h1
      have q := d0 p0
      subst q
      have g0 := evT (F 0 6 _ rfl rfl)
      clear F G
      go_simp
      refine hK 1 7 _ w' rfl ⟨_, _, _, _, _, _, _, _, _, rfl, d0, (fun _ => rfl), d2, d3, d4, d5, d6, (fun _ => laterT p0), (fun q => laterT (m2 q)), (fun q => laterT (m4 q)), (fun q => laterT (m5 q)), (fun q => ⟨laterT (m6 q).1, laterT (m6 q).2⟩), (fun q => ⟨laterT (m9 q).1, laterT (m9 q).2.1, laterT (m9 q).2.2⟩), (fun q => ⟨laterT (m10 q).1, laterT (m10 q).2.1, laterT (m10 q).2.2⟩), HB, Z4, (fun a0 => absurd (show L 9 = true from a0) (by rw [n9]; decide)), Z5, (fun a0 => absurd (show L 10 = true from a0) (by rw [n10]; decide)), D⟩
    · rintro A L vs w' F G ⟨v6, v7, v8, v9, v10, v11, v12, v4, v5, rfl, d0, d1, d2, d3, d4, d5, d6, m1, m2, m4, m5, m6, m9, m10, HB, Z4, F4, Z5, F5, D⟩ hL hdep K' hK hK0
      have p1 : L 1 = true := hdep { on := 1, ground := Ground.data } (by simp) rfl
      have n6 : L 6 = false := not_yet hL (fun q => (m6 q).1)
      have n9 : L 9 = false := not_yet hL (fun q => (m9 q).1)
      have n10 : L 10 = false := not_yet hL (fun q => (m6 ((m10 q).1)).1)
      have q := d1 p1
      subst q
      have g1 := evT (F 1 7 _ rfl rfl)
      clear F G
      go_simp
      refine (HN1.out (tm) _).mono ?_
      rintro e w2 ⟨rfl, hb⟩
      refine hK 2 8 _ w2 rfl ⟨_, _, _, _, _, _, _, _, _, rfl, d0, d1, (fun _ => rfl), d3, d4, d5, d6, (fun q => laterT (m1 q)), (fun _ => laterT p1), (fun q => laterT (m4 q)), (fun q => laterT (m5 q)), (fun q => ⟨laterT (m6 q).1, laterT (m6 q).2⟩), (fun q => ⟨laterT (m9 q).1, laterT (m9 q).2.1, laterT (m9 q).2.2⟩), (fun q => ⟨laterT (m10 q).1, laterT (m10 q).2.1, laterT (m10 q).2.2⟩), ((HB.out)).trans (hb.mono ((HB.out)).size), (fun a0 a1 => ((Z4.out a0 a1)).below hb), (fun a0 => absurd (show L 9 = true from a0) (by rw [n9]; decide)), (fun a0 a1 => ((Z5.out a0 a1)).below hb), (fun a0 => absurd (show L 10 = true from a0) (by rw [n10]; decide)), (fun a0 a1 => ((D.out a0 a1)))⟩
    · rintro A L vs w' F G ⟨v6, v7, v8, v9, v10, v11, v12, v4, v5, rfl, d0, d1, d2, d3, d4, d5, d6, m1, m2, m4, m5, m6, m9, m10, HB, Z4, F4, Z5, F5, D⟩ hL hdep K' hK hK0
      have n4 : L 4 = false := not_yet hL (fun q => (m4 q))
      have n5 : L 5 = false := not_yet hL (fun q => (m4 ((m5 q))))
      have n6 : L 6 = false := not_yet hL (fun q => (m4 ((m5 ((m6 q).2)))))
      have n9 : L 9 = false := not_yet hL (fun q => (m4 ((m5 ((m6 ((m9 q).2.1)).2)))))
      have n10 : L 10 = false := not_yet hL (fun q => (m4 ((m5 ((m6 ((m10 q).1)).2)))))
      have gt : A.tmps[1]?.getD undef = .pointer (some ⟨w.heap.size, 0, none⟩) := evT ((G 1 (by decide)).trans rfl)
      clear F G
      go_simp
      refine hK 3 9 _ w' rfl ⟨_, _, _, _, _, _, _, _, _, rfl, d0, d1, d2, (fun _ => rfl), d4, d5, d6, (fun q => laterT (m1 q)), (fun q => laterT (m2 q)), (fun q => laterT (m4 q)), (fun q => laterT (m5 q)), (fun q => ⟨laterT (m6 q).1, laterT (m6 q).2⟩), (fun q => ⟨laterT (m9 q).1, laterT (m9 q).2.1, laterT (m9 q).2.2⟩), (fun q => ⟨laterT (m10 q).1, laterT (m10 q).2.1, laterT (m10 q).2.2⟩), HB, Z4, (fun a0 => absurd (show L 9 = true from a0) (by rw [n9]; decide)), Z5, (fun a0 => absurd (show L 10 = true from a0) (by rw [n10]; decide)), D⟩
    · rintro A L vs w' F G ⟨v6, v7, v8, v9, v10, v11, v12, v4, v5, rfl, d0, d1, d2, d3, d4, d5, d6, m1, m2, m4, m5, m6, m9, m10, HB, Z4, F4, Z5, F5, D⟩ hL hdep K' hK hK0
      have p3 : L 3 = true := hdep { on := 3, ground := Ground.data } (by simp) rfl
      have n5 : L 5 = false := not_yet hL (fun q => (m5 q))
      have n6 : L 6 = false := not_yet hL (fun q => (m5 ((m6 q).2)))
      have n9 : L 9 = false := not_yet hL (fun q => (m5 ((m6 ((m9 q).2.1)).2)))
      have n10 : L 10 = false := not_yet hL (fun q => (m5 ((m6 ((m10 q).1)).2)))
      have h1 := (HY.out w' HB.out).1
      obtain ⟨b0, b1, b2, b3⟩ := block4 h1
      have q := d3 p3
      subst q
      have g3 := evT (F 3 9 _ rfl rfl)
      clear F G
      go_simp
      refine hK 4 10 _ w' rfl ⟨_, _, _, _, _, _, _, _, _, rfl, d0, d1, d2, d3, (fun _ => rfl), d5, d6, (fun q => laterT (m1 q)), (fun q => laterT (m2 q)), (fun _ => laterT p3), (fun q => laterT (m5 q)), (fun q => ⟨laterT (m6 q).1, laterT (m6 q).2⟩), (fun q => ⟨laterT (m9 q).1, laterT (m9 q).2.1, laterT (m9 q).2.2⟩), (fun q => ⟨laterT (m10 q).1, laterT (m10 q).2.1, laterT (m10 q).2.2⟩), HB, Z4, (fun a0 => absurd (show L 9 = true from a0) (by rw [n9]; decide)), Z5, (fun a0 => absurd (show L 10 = true from a0) (by rw [n10]; decide)), D⟩
    · rintro A L vs w' F G ⟨v6, v7, v8, v9, v10, v11, v12, v4, v5, rfl, d0, d1, d2, d3, d4, d5, d6, m1, m2, m4, m5, m6, m9, m10, HB, Z4, F4, Z5, F5, D⟩ hL hdep K' hK hK0
      have p4 : L 4 = true := hdep { on := 4, ground := Ground.data } (by simp) rfl
      have n6 : L 6 = false := not_yet hL (fun q => (m6 q).2)
      have n9 : L 9 = false := not_yet hL (fun q => (m6 ((m9 q).2.1)).2)
      have n10 : L 10 = false := not_yet hL (fun q => (m6 ((m10 q).1)).2)
      have q := d4 p4
      subst q
      have g4 := evT (F 4 10 _ rfl rfl)
      clear F G
      go_simp
      refine hK 5 11 _ w' rfl ⟨_, _, _, _, _, _, _, _, _, rfl, d0, d1, d2, d3, d4, (fun _ => rfl), d6, (fun q => laterT (m1 q)), (fun q => laterT (m2 q)), (fun q => laterT (m4 q)), (fun _ => laterT p4), (fun q => ⟨laterT (m6 q).1, laterT (m6 q).2⟩), (fun q => ⟨laterT (m9 q).1, laterT (m9 q).2.1, laterT (m9 q).2.2⟩), (fun q => ⟨laterT (m10 q).1, laterT (m10 q).2.1, laterT (m10 q).2.2⟩), HB, Z4, (fun a0 => absurd (show L 9 = true from a0) (by rw [n9]; decide)), Z5, (fun a0 => absurd (show L 10 = true from a0) (by rw [n10]; decide)), D⟩
    · rintro A L vs w' F G ⟨v6, v7, v8, v9, v10, v11, v12, v4, v5, rfl, d0, d1, d2, d3, d4, d5, d6, m1, m2, m4, m5, m6, m9, m10, HB, Z4, F4, Z5, F5, D⟩ hL hdep K' hK hK0
      have p5 : L 5 = true := hdep { on := 5, ground := Ground.data } (by simp) rfl
      have p2 : L 2 = true := hdep { on := 2, ground := Ground.chain } (by simp) rfl
      have n9 : L 9 = false := not_yet hL (fun q => (m9 q).2.1)
      have n10 : L 10 = false := not_yet hL (fun q => (m10 q).1)
      have q := d5 p5
      subst q
      have g5 := evT (F 5 11 _ rfl rfl)
      clear F G
      go_simp
      refine (HN1.out (uw kd) _).mono ?_
      rintro e w2 ⟨rfl, hb⟩
      refine hK 6 12 _ w2 rfl ⟨_, _, _, _, _, _, _, _, _, rfl, d0, d1, d2, d3, d4, d5, (fun _ => rfl), (fun q => laterT (m1 q)), (fun q => laterT (m2 q)), (fun q => laterT (m4 q)), (fun q => laterT (m5 q)), (fun _ => ⟨laterT p2, laterT p5⟩), (fun q => ⟨laterT (m9 q).1, laterT (m9 q).2.1, laterT (m9 q).2.2⟩), (fun q => ⟨laterT (m10 q).1, laterT (m10 q).2.1, laterT (m10 q).2.2⟩), ((HB.out)).trans (hb.mono ((HB.out)).size), (fun a0 a1 => ((Z4.out a0 a1)).below hb), (fun a0 => absurd (show L 9 = true from a0) (by rw [n9]; decide)), (fun a0 a1 => ((Z5.out a0 a1)).below hb), (fun a0 => absurd (show L 10 = true from a0) (by rw [n10]; decide)), (fun a0 a1 => ((D.out a0 a1)))⟩
    · rintro A L vs w' F G ⟨v6, v7, v8, v9, v10, v11, v12, v4, v5, rfl, d0, d1, d2, d3, d4, d5, d6, m1, m2, m4, m5, m6, m9, m10, HB, Z4, F4, Z5, F5, D⟩ hL hdep K' hK hK0
      have n9 : L 9 = false := not_yet hL (fun q => (m9 q).2.2)
      have n10 : L 10 = false := not_yet hL (fun q => (m9 ((m10 q).2.2)).2.2)
      have HD5 : Hid (L 8 = true → v5 ≠ .pointer (some ⟨w'.heap.size, 0, none⟩)) := fun a => by
        cases q : L 10 with
        | false => exact (Z5.out a q).ne
        | true => exact (F5.out q).ne
      have hb : Below w'.heap.size w' (w'.alloc (.cells #[.int .i64 0, .int .u64 0, .string ⟨#[]⟩, .slice none 0 0] 26)) := (Below.refl _ _).alloc (Nat.le_refl _) _
      clear F G
      go_simp
      refine hK 7 4 _ _ rfl ⟨_, _, _, _, _, _, _, _, _, rfl, d0, d1, d2, d3, d4, d5, d6, (fun q => laterT (m1 q)), (fun q => laterT (m2 q)), (fun q => laterT (m4 q)), (fun q => laterT (m5 q)), (fun q => ⟨laterT (m6 q).1, laterT (m6 q).2⟩), (fun q => ⟨laterT (m9 q).1, laterT (m9 q).2.1, laterT (m9 q).2.2⟩), (fun q => ⟨laterT (m10 q).1, laterT (m10 q).2.1, laterT (m10 q).2.2⟩), ((HB.out)).trans (hb.mono ((HB.out)).size), (fun _ _ => Bx.new _ _ (HB.out.size)), (fun a0 => absurd (show L 9 = true from a0) (by rw [n9]; decide)), (fun a0 a1 => ((Z5.out a0 a1)).below hb), (fun a0 => absurd (show L 10 = true from a0) (by rw [n10]; decide)), (fun _ a1 => Ne.symm (HD5.out a1))⟩
    · rintro A L vs w' F G ⟨v6, v7, v8, v9, v10, v11, v12, v4, v5, rfl, d0, d1, d2, d3, d4, d5, d6, m1, m2, m4, m5, m6, m9, m10, HB, Z4, F4, Z5, F5, D⟩ hL hdep K' hK hK0
      have n10 : L 10 = false := not_yet hL (fun q => (m10 q).2.1)
      have HD4 : Hid (L 7 = true → v4 ≠ .pointer (some ⟨w'.heap.size, 0, none⟩)) := fun a => by
        cases q : L 9 with
        | false => exact (Z4.out a q).ne
        | true => exact (F4.out q).ne
      have hb : Below w'.heap.size w' (w'.alloc (.cells #[.int .i64 0, .int .u64 0, .string ⟨#[]⟩, .slice none 0 0] 26)) := (Below.refl _ _).alloc (Nat.le_refl _) _
      clear F G
      go_simp
      refine hK 8 5 _ _ rfl ⟨_, _, _, _, _, _, _, _, _, rfl, d0, d1, d2, d3, d4, d5, d6, (fun q => laterT (m1 q)), (fun q => laterT (m2 q)), (fun q => laterT (m4 q)), (fun q => laterT (m5 q)), (fun q => ⟨laterT (m6 q).1, laterT (m6 q).2⟩), (fun q => ⟨laterT (m9 q).1, laterT (m9 q).2.1, laterT (m9 q).2.2⟩), (fun q => ⟨laterT (m10 q).1, laterT (m10 q).2.1, laterT (m10 q).2.2⟩), ((HB.out)).trans (hb.mono ((HB.out)).size), (fun a0 a1 => ((Z4.out a0 a1)).below hb), (fun a0 => ((F4.out a0)).below hb), (fun _ _ => Bx.new _ _ (HB.out.size)), (fun a0 => absurd (show L 10 = true from a0) (by rw [n10]; decide)), (fun a0 _ => HD4.out a0)⟩
    · rintro A L vs w' F G ⟨v6, v7, v8, v9, v10, v11, v12, v4, v5, rfl, d0, d1, d2, d3, d4, d5, d6, m1, m2, m4, m5, m6, m9, m10, HB, Z4, F4, Z5, F5, D⟩ hL hdep K' hK hK0
      have p7 : L 7 = true := hdep { on := 7, ground := Ground.data } (by simp) rfl
      have p2 : L 2 = true := hdep { on := 2, ground := Ground.data } (by simp) rfl
      have p6 : L 6 = true := hdep { on := 6, ground := Ground.chain } (by simp) rfl
      have n10 : L 10 = false := not_yet hL (fun q => (m10 q).2.2)
      have n9 : L 9 = false := hL
      obtain ⟨g9, e9, hg9, hh9⟩ := Z4.out p7 n9
      subst e9
      obtain ⟨z0, z1, z2, z3⟩ := block4 hh9
      have fz := Lib.frozen_of_heap hh9
      have f0 := fz 0
      have f1 := fz 1
      have f2 := fz 2
      have f3 := fz 3
      have g7 := evT (F 7 4 _ rfl rfl)
      have q := d2 p2
      subst q
      have g2 := evT (F 2 8 _ rfl rfl)
      clear F G fz
      go_simp
      refine hK0 _ ⟨_, _, _, _, _, _, _, _, _, rfl, d0, d1, d2, d3, d4, d5, d6, (fun q => laterT (m1 q)), (fun q => laterT (m2 q)), (fun q => laterT (m4 q)), (fun q => laterT (m5 q)), (fun q => ⟨laterT (m6 q).1, laterT (m6 q).2⟩), (fun _ => ⟨laterT p2, laterT p6, laterT p7⟩), (fun q => ⟨laterT (m10 q).1, laterT (m10 q).2.1, laterT (m10 q).2.2⟩), (set4_below HB.out hg9 _ _ _ _), (fun a0 a1 => absurd (show true = false from a1) (by decide)), (fun _ => ⟨g9, rfl, hg9, set4_block hh9 _ _ _ _⟩), (fun a0 a1 => ((Z5.out a0 a1)).oth (Ne.symm (D.out p7 a0)) (fun k hk => set4_other hk _ _ _ _)), (fun a0 => absurd (show L 10 = true from a0) (by rw [n10]; decide)), (fun a0 a1 => ((D.out a0 a1)))⟩
    · rintro A L vs w' F G ⟨v6, v7, v8, v9, v10, v11, v12, v4, v5, rfl, d0, d1, d2, d3, d4, d5, d6, m1, m2, m4, m5, m6, m9, m10, HB, Z4, F4, Z5, F5, D⟩ hL hdep K' hK hK0
      have p8 : L 8 = true := hdep { on := 8, ground := Ground.data } (by simp) rfl
      have p6 : L 6 = true := hdep { on := 6, ground := Ground.data } (by simp) rfl
      have p9 : L 9 = true := hdep { on := 9, ground := Ground.chain } (by simp) rfl
      have n10 : L 10 = false := hL
      obtain ⟨g9, e9, hg9, hh9⟩ := Z5.out p8 n10
      subst e9
      obtain ⟨z0, z1, z2, z3⟩ := block4 hh9
      have fz := Lib.frozen_of_heap hh9
      have f0 := fz 0
      have f1 := fz 1
      have f2 := fz 2
      have f3 := fz 3
      have g8 := evT (F 8 5 _ rfl rfl)
      have q := d6 p6
      subst q
      have g6 := evT (F 6 12 _ rfl rfl)
      clear F G fz
      go_simp
      refine hK0 _ ⟨_, _, _, _, _, _, _, _, _, rfl, d0, d1, d2, d3, d4, d5, d6, (fun q => laterT (m1 q)), (fun q => laterT (m2 q)), (fun q => laterT (m4 q)), (fun q => laterT (m5 q)), (fun q => ⟨laterT (m6 q).1, laterT (m6 q).2⟩), (fun q => ⟨laterT (m9 q).1, laterT (m9 q).2.1, laterT (m9 q).2.2⟩), (fun _ => ⟨laterT p6, laterT p8, laterT p9⟩), (set4_below HB.out hg9 _ _ _ _), (fun a0 a1 => (absurd (show L 9 = false from a1) (by rw [p9]; decide))), (fun a0 => ((F4.out a0)).oth (D.out (((m9 p9).2.2)) p8) (fun k hk => set4_other hk _ _ _ _)), (fun a0 a1 => absurd (show true = false from a1) (by decide)), (fun _ => ⟨g9, rfl, hg9, set4_block hh9 _ _ _ _⟩), (fun a0 a1 => ((D.out a0 a1)))⟩
    · rintro L vs w' hall ⟨v6, v7, v8, v9, v10, v11, v12, v4, v5, rfl, d0, d1, d2, d3, d4, d5, d6, m1, m2, m4, m5, m6, m9, m10, HB, Z4, F4, Z5, F5, D⟩
      have f4 := F4.out (hall 9 (by decide))
      have f5 := F5.out (hall 10 (by decide))
      have hb := HB.out
      clear HB Z4 F4 Z5 F5 D
      obtain ⟨g4, rfl, hg4, hh4⟩ := f4
      obtain ⟨g5, rfl, hg5, hh5⟩ := f5
      have HRF : Hid (w1.heap.size ≤ g4 ∧ w1.heap.size ≤ g5 ∧ w'.heap[g4]? = some (.cells #[.int .i64 0, .int .u64 tm, .string nob, .slice none 0 0] 26 (0, 0)) ∧ w'.heap[g5]? = some (.cells #[.int .i64 0, .int .u64 (uw kd), .string nob, .slice none 0 0] 26 (0, 0)) ∧ Below w1.heap.size w1 w') := ⟨hg4, hg5, hh4, hh5, hb⟩
      clear hg4 hg5 hh4 hh5 hb
      simp only [puts]
      go_simp
      go_step
      go_meet
      exact ⟨g4, g5, rfl, rfl, HRF⟩
  case rest =>
    obtain ⟨g4, g5, rfl, rfl, HRF⟩ := hcut
    have HYc : Hid (∀ wq, Below wc.heap.size wc wq → wq.heap[w.heap.size]? = some (.cells #[.int .u64 tm, .int .i64 kd, .string dt, .slice a nm cap] 46 (0, 0)) ∧ wq.heap[w.heap.size + 1]? = some (.cells #[.int .i64 0, .int .u64 0, .string ⟨#[]⟩, .slice none 0 0] 26 (0, 0)) ∧ wq.heap[g4]? = some (.cells #[.int .i64 0, .int .u64 tm, .string nob, .slice none 0 0] 26 (0, 0)) ∧ wq.heap[g5]? = some (.cells #[.int .i64 0, .int .u64 (uw kd), .string nob, .slice none 0 0] 26 (0, 0)) ∧ Below w.heap.size w wq) := fun wq hq => by
      obtain ⟨q1, q2, q3, q4, q5⟩ := HRF.out
      obtain ⟨y1, y2, y3⟩ := HY.out wq (q5.trans (hq.mono q5.size))
      exact ⟨y1, y2, (hq.block _ (blk_lt q3)).trans q3, (hq.block _ (blk_lt q4)).trans q4, y3⟩
    have HWC : Hid (w.heap.size + 2 ≤ wc.heap.size) := by
      have h1 := HS1.out
      have h2 := HRF.out.2.2.2.2.size
      show _ ≤ _
      omega
    have HG45 : Hid (¬ g4 = w.heap.size + 1 ∧ ¬ g5 = w.heap.size + 1) := by
      have h1 := HS1.out
      have h2 := HRF.out.1
      have h3 := HRF.out.2.1
      exact ⟨by omega, by omega⟩
    clear HRF HY HS1 HB1 HA1
    have HC2 : Hid (EL = [.mk 0 tm nob [], numT kd] → ∀ (wq : World) (T : TypeId), CR (wq.alloc (.cells #[.int .i64 0, .int .u64 tm, .string nob, .slice none 0 0, .int .i64 0, .int .u64 (uw kd), .string nob, .slice none 0 0] T)) (lisT EL) (cellV 2 0 nob (.slice (some ⟨wq.heap.size, 0, none⟩) 2 2))) := by
      intro e wq T
      rw [e]
      exact CS.cr (cs_block (S := fun _ => True) (l := [⟨0, tm, nob, .slice none 0 0⟩, ⟨0, uw kd, nob, .slice none 0 0⟩]) (heap_alloc_new _ _) rfl rfl (Nat.le_refl 2) (by decide) trivial (fun i hi => by
        match i, hi with
        | 0, _ => exact cs_num _ HTM.out
        | 1, _ => exact cs_num _ (uw_lt _)))
    have HC3 : Hid (∀ p3, EL = [.mk 0 tm nob [], numT kd, p3] → ∀ (wq : World) (T : TypeId) (k : Int) (n : Nat) (s : ByteArray) (u : Value), CR wq p3 (cellV k n s u) → CR (wq.alloc (.cells #[.int .i64 0, .int .u64 tm, .string nob, .slice none 0 0, .int .i64 0, .int .u64 (uw kd), .string nob, .slice none 0 0, .int .i64 k, .int .u64 n, .string s, u] T)) (lisT EL) (cellV 2 0 nob (.slice (some ⟨wq.heap.size, 0, none⟩) 3 3))) := by
      intro p3 e wq T k n s u hc
      rw [e]
      exact CS.cr (cs_block (S := fun _ => True) (l := [⟨0, tm, nob, .slice none 0 0⟩, ⟨0, uw kd, nob, .slice none 0 0⟩, ⟨k, n, s, u⟩]) (heap_alloc_new _ _) rfl rfl (Nat.le_refl 3) (by decide) trivial (fun i hi => by
        match i, hi with
        | 0, _ => exact cs_num _ HTM.out
        | 1, _ => exact cs_num _ (uw_lt _)
        | 2, _ => exact ((hc.kept ((Below.refl _ _).alloc (Nat.le_refl _) _) (Nat.le_refl _)).cs).widen (fun _ _ => trivial)))
    obtain ⟨x0, x1, x2, x3⟩ := block4 (HYc.out wc (Below.refl _ _)).1
    by_cases k0 : kd = 0
    · subst k0
      have hE : EE = 0 := by rw [HED.out]; simp
      have hL : EL = [.mk 0 tm nob [], numT 0] := by rw [HEL.out]; simp
      have HLS0 := hide_p (HLS.out (fun e => by omega))
      have hc2 := HC2.out hL wc
      have hlen : 2 = EL.length := by rw [hL]; rfl
      have HLEN2 := hide_p hlen
      have HG := (show Hid _ from hide_p (fun w5 W B k n s a m c x0 x1 x2 x3 => HGOOD.out w5 W B k n s a m c x0 x1 x2 x3 hE))
      have HC2' := hide_p hc2
      obtain ⟨c0, c1, c2, c3⟩ := block4 (HYc.out wc (Below.refl _ _)).2.2.1
      obtain ⟨d0, d1, d2, d3⟩ := block4 (HYc.out wc (Below.refl _ _)).2.2.2.1
      clear HED HEL HC2 HC3 HLS HBAD HGOOD HMB HMC HTX hL hlen hc2 hE hx
      go_wp2_with fail
      refine (HLS0.out _ _ _ _ HLEN2.out (HC2'.out _)).mono ?_
      rintro e w5 ⟨v5, rfl, hcs5, hb5⟩
      obtain ⟨k5, n5, s5, a5, m5, c5, rfl⟩ := hcs5.form
      have hwc := HWC.out
      have hq5 : Below wc.heap.size wc w5 := ((Below.refl _ _).alloc (Nat.le_refl _) _).trans (hb5.mono (by simp))
      obtain ⟨-, z2, -, -, zb⟩ := HYc.out _ hq5
      obtain ⟨c0, c1, c2, c3⟩ := block4 z2
      have fz := Lib.frozen_of_heap z2
      have f0 := fz 0
      have f1 := fz 1
      have f2 := fz 2
      have f3 := fz 3
      have HE := hide_p (fun W => HG.out w5 W _ _ _ _ _ _ _ _ _ _ _ z2 (by simp; omega) zb hcs5)
      unfold cellV
      clear fz z2 zb hcs5 hb5 hq5 hwc
      go_wp2
      obtain ⟨y1, y2⟩ := HE.out _ rfl
      exact bodyPost_ret (Sn.results_cell_tmp (p := 2) (q := 3) rfl _ _ (w.heap.size + 1) _ _ _ _ rfl y1 Tryd.underlying26 rfl sz26) rfl y2
    · by_cases k1 : kd = 1
      · subst k1
        by_cases c6 : dt.size > 65536
        · have hE : EE = 2 := by rw [HED.out]; simp [c6]
          have c6b : (65536 : Int) < (dt.size : Int) := by omega
          obtain ⟨-, z2, -, -, zb⟩ := HYc.out wc (Below.refl _ _)
          obtain ⟨c0, c1, c2, c3⟩ := block4 z2
          have fz := Lib.frozen_of_heap z2
          have f0 := fz 0
          have f1 := fz 1
          have f2 := fz 2
          have f3 := fz 3
          have HE := hide_p (fun W => HBAD.out 2 wc W _ _ _ _ hE (by decide) z2 zb)
          have hsz := HDT.out
          clear HED HEL HC2 HC3 HLS HBAD HGOOD HMB HMC HTX hE hx fz z2 zb
          go_wp2
          obtain ⟨y1, y2⟩ := HE.out _ rfl
          exact bodyPost_ret (Sn.results_cell_tmp (p := 2) (q := 3) rfl _ _ (w.heap.size + 1) _ _ _ _ rfl y1 Tryd.underlying26 rfl sz26) rfl y2
        · have hE : EE = 0 := by rw [HED.out]; simp [c6]
          have c6b : ¬ (65536 : Int) < (dt.size : Int) := by omega
          have hL : EL = [.mk 0 tm nob [], numT 1, .mk 1 0 dt []] := by rw [HEL.out]; simp
          have hsz := HDT.out
          have HLS0 := hide_p (HLS.out (fun e => by omega))
          have HLEN2 := (show Hid (3 = EL.length) from by show _ = _; rw [hL]; rfl)
          have HG := (show Hid _ from hide_p (fun w5 W B k n s a m c x0 x1 x2 x3 => HGOOD.out w5 W B k n s a m c x0 x1 x2 x3 hE))
          have HC3' := hide_p (HC3.out _ hL)
          have HDTc : Hid (∀ wq : World, CR wq (.mk 1 0 dt []) (cellV 1 0 dt (.slice none 0 0))) := fun wq => (cs_txt (S := fun _ => True) dt hsz).cr
          clear HED HEL HC2 HC3 HLS HBAD HGOOD HMB HMC hL hE hx
          go_upto_region 8 with fail
          obtain ⟨e0, e1, e2, e3⟩ := block4 (HYc.out wc (Below.refl _ _)).2.2.1
          obtain ⟨d0, d1, d2, d3⟩ := block4 (HYc.out wc (Below.refl _ _)).2.2.2.1
          have hq5 : Below wc.heap.size wc wc.drew := (Below.refl _ _).drew
          have hwc := HWC.out
          obtain ⟨hn4, hn5⟩ := HG45.out
          have hn0 : ¬ w.heap.size = w.heap.size + 1 := by omega
          go_region_held3 (fun w' => w'.cell? ⟨w.heap.size, 2, none⟩ = some (.string dt) ∧ w'.cell? ⟨g4, 0, none⟩ = some (.int .i64 0) ∧ w'.cell? ⟨g4, 1, none⟩ = some (.int .u64 tm) ∧ w'.cell? ⟨g4, 2, none⟩ = some (.string nob) ∧ w'.cell? ⟨g4, 3, none⟩ = some (.slice none 0 0) ∧ w'.cell? ⟨g5, 0, none⟩ = some (.int .i64 0) ∧ w'.cell? ⟨g5, 1, none⟩ = some (.int .u64 (uw 1)) ∧ w'.cell? ⟨g5, 2, none⟩ = some (.string nob) ∧ w'.cell? ⟨g5, 3, none⟩ = some (.slice none 0 0))
            (first
              | with_reducible exact keep9s (by assumption) hn0 hn4 hn5
              | exact keep9 (by assumption) hbS
              | go_keep)
            (first
              | (go_at_call 42; refine (HLS0.out _ _ _ _ HLEN2.out (HC3'.out _ _ _ _ _ _ hp3)).mono ?_; rintro e w7 ⟨v7, rfl, hcs7, hbS⟩; obtain ⟨k7, n7, s7, a7, m7, c7, rfl⟩ := hcs7.form; have hq7 := (hq6.alloc hq6.size _).trans (hbS.mono (by have := hq6.size; simp; omega)); obtain ⟨-, z2, -, -, zb⟩ := HYc.out _ hq7; obtain ⟨c0, c1, c2, c3⟩ := block4 z2; have fz := Lib.frozen_of_heap z2; have f0 := fz 0; have f1 := fz 1; have f2 := fz 2; have f3 := fz 3; have HE := hide_p (fun W => HG.out w7 W _ _ _ _ _ _ _ _ _ _ _ z2 (by have := hq6.size; simp; omega) zb hcs7); unfold cellV)
              | (go_at_call 43; refine (HTX.out _).mono ?_; rintro e w6 ⟨rfl, hbS⟩; have hq6 := hq5.trans (hbS.mono hq5.size); have hp3 := HDTc.out w6; unfold cellV))
          all_goals go_wp2_with fail
          all_goals
            obtain ⟨y1, y2⟩ := HE.out _ rfl
            exact bodyPost_ret (Sn.results_cell_tmp (p := 2) (q := 3) rfl _ _ (w.heap.size + 1) _ _ _ _ rfl y1 Tryd.underlying26 rfl sz26) rfl y2
      · by_cases k2 : kd = 2
        · subst k2
          cases MB with
          | false =>
            have hE : EE = 1 := by rw [HED.out]; simp
            have HB2 := (show Hid _ from hide_p (fun w1 W x0 x1 x2 x3 => HBAD.out 1 w1 W x0 x1 x2 x3 hE (by decide)))
            clear HED HEL HC2 HC3 HLS HBAD HGOOD HMC HTX hE hx
            go_wp2_with fail
            refine (HMB.out wc (HYc.out wc (Below.refl _ _)).2.2.2.2).mono ?_
            rintro e w5 ⟨rfl, hb5⟩
            obtain ⟨-, z2, -, -, zb⟩ := HYc.out w5 hb5
            obtain ⟨c0, c1, c2, c3⟩ := block4 z2
            have fz := Lib.frozen_of_heap z2
            have f0 := fz 0
            have f1 := fz 1
            have f2 := fz 2
            have f3 := fz 3
            have HE := hide_p (fun W => HB2.out w5 W _ _ _ _ z2 zb)
            clear fz z2 zb hb5 x0 x1 x2 x3
            go_wp2
            obtain ⟨y1, y2⟩ := HE.out _ rfl
            exact bodyPost_ret (Sn.results_cell_tmp (p := 2) (q := 3) rfl _ _ (w.heap.size + 1) _ _ _ _ rfl y1 Tryd.underlying26 rfl sz26) rfl y2
          | true =>
            have hE : EE = 0 := by rw [HED.out]; simp
            have hL : EL = [.mk 0 tm nob [], numT 2, MT] := by rw [HEL.out]; simp
            have HLS0 := hide_p (HLS.out (fun _ => HLEN.out rfl))
            have HLEN2 := (show Hid (3 = EL.length) from by show _ = _; rw [hL]; rfl)
            have HG := (show Hid _ from hide_p (fun w5 W B k n s a m c x0 x1 x2 x3 => HGOOD.out w5 W B k n s a m c x0 x1 x2 x3 hE))
            have HC3' := hide_p (HC3.out _ hL)
            have HMC' := hide_p (HMC.out rfl)
            clear HED HEL HC2 HC3 HLS HBAD HGOOD HTX hL hE hx HMC
            go_wp2_with fail
            refine (HMB.out wc (HYc.out wc (Below.refl _ _)).2.2.2.2).mono ?_
            rintro e w4 ⟨rfl, hb4⟩
            have HB4 := hide_p hb4
            have HYd : Hid (∀ wq, Below w4.heap.size w4 wq → wq.heap[w.heap.size]? = some (.cells #[.int .u64 tm, .int .i64 2, .string dt, .slice a nm cap] 46 (0, 0)) ∧ wq.heap[w.heap.size + 1]? = some (.cells #[.int .i64 0, .int .u64 0, .string ⟨#[]⟩, .slice none 0 0] 26 (0, 0)) ∧ wq.heap[g4]? = some (.cells #[.int .i64 0, .int .u64 tm, .string nob, .slice none 0 0] 26 (0, 0)) ∧ wq.heap[g5]? = some (.cells #[.int .i64 0, .int .u64 (uw 2), .string nob, .slice none 0 0] 26 (0, 0)) ∧ Below w.heap.size w wq) := fun wq hq => HYc.out wq (HB4.out.trans (hq.mono HB4.out.size))
            have HW4 : Hid (w.heap.size + 2 ≤ w4.heap.size) := Nat.le_trans HWC.out hb4.size
            clear hb4 x0 x1 x2 x3
            obtain ⟨x0, x1, x2, x3⟩ := block4 (HYd.out w4 (Below.refl _ _)).1
            go_upto_region 12 with fail
            obtain ⟨e0, e1, e2, e3⟩ := block4 (HYd.out w4 (Below.refl _ _)).2.2.1
            obtain ⟨d0, d1, d2, d3⟩ := block4 (HYd.out w4 (Below.refl _ _)).2.2.2.1
            have hq5 : Below w4.heap.size w4 w4.drew := (Below.refl _ _).drew
            have hwc := HW4.out
            obtain ⟨hn4, hn5⟩ := HG45.out
            have hn0 : ¬ w.heap.size = w.heap.size + 1 := by omega
            go_region_held3 (fun w' => w'.cell? ⟨w.heap.size, 3, none⟩ = some (.slice a nm cap) ∧ w'.cell? ⟨g4, 0, none⟩ = some (.int .i64 0) ∧ w'.cell? ⟨g4, 1, none⟩ = some (.int .u64 tm) ∧ w'.cell? ⟨g4, 2, none⟩ = some (.string nob) ∧ w'.cell? ⟨g4, 3, none⟩ = some (.slice none 0 0) ∧ w'.cell? ⟨g5, 0, none⟩ = some (.int .i64 0) ∧ w'.cell? ⟨g5, 1, none⟩ = some (.int .u64 (uw 2)) ∧ w'.cell? ⟨g5, 2, none⟩ = some (.string nob) ∧ w'.cell? ⟨g5, 3, none⟩ = some (.slice none 0 0))
              (first
                | with_reducible exact keep9s (by assumption) hn0 hn4 hn5
                | exact keep9 (by assumption) hbS
                | go_keep)
              (first
                | (go_at_call 42; refine (HLS0.out _ _ _ _ HLEN2.out (HC3'.out _ _ _ _ _ _ hp3)).mono ?_; rintro e w7 ⟨v7, rfl, hcs7, hbS⟩; obtain ⟨k7, n7, s7, a7, m7, c7, rfl⟩ := hcs7.form; have hq7 := (hq6.alloc hq6.size _).trans (hbS.mono (by have := hq6.size; simp; omega)); obtain ⟨-, z2, -, -, zb⟩ := HYd.out _ hq7; obtain ⟨c0, c1, c2, c3⟩ := block4 z2; have fz := Lib.frozen_of_heap z2; have f0 := fz 0; have f1 := fz 1; have f2 := fz 2; have f3 := fz 3; have HE := hide_p (fun W => HG.out w7 W _ _ _ _ _ _ _ _ _ _ _ z2 (by have := hq6.size; simp; omega) zb hcs7); unfold cellV)
                | (go_at_call 28; refine (HMC'.out _ (HYd.out _ hq5).2.2.2.2).mono ?_; rintro e w6 ⟨v6, rfl, hcs6, hbS⟩; obtain ⟨k6, n6, s6, a6, m6, c6, rfl⟩ := hcs6.form; have hq6 := hq5.trans (hbS.mono hq5.size); have hp3 := hcs6.cr; unfold cellV))
            all_goals go_wp2_with fail
            all_goals
              obtain ⟨y1, y2⟩ := HE.out _ rfl
              exact bodyPost_ret (Sn.results_cell_tmp (p := 2) (q := 3) rfl _ _ (w.heap.size + 1) _ _ _ _ rfl y1 Tryd.underlying26 rfl sz26) rfl y2
        · have hE : EE = 1 := by
            rw [HED.out, if_pos (by omega)]
          obtain ⟨-, z2, -, -, zb⟩ := HYc.out wc (Below.refl _ _)
          obtain ⟨c0, c1, c2, c3⟩ := block4 z2
          have fz := Lib.frozen_of_heap z2
          have f0 := fz 0
          have f1 := fz 1
          have f2 := fz 2
          have f3 := fz 3
          have HE := hide_p (fun W => HBAD.out 1 wc W _ _ _ _ hE (by decide) z2 zb)
          have dk0 : (kd == 0) = false := by simp [k0]
          have dk1 : (kd == 1) = false := by simp [k1]
          have dk2 : (kd == 2) = false := by simp [k2]
          clear HED HEL HC2 HC3 HLS HBAD HGOOD HMB HMC HTX hE hx fz z2 zb
          go_wp2
          obtain ⟨y1, y2⟩ := HE.out _ rfl
          exact bodyPost_ret (Sn.results_cell_tmp (p := 2) (q := 3) rfl _ _ (w.heap.size + 1) _ _ _ _ rfl y1 Tryd.underlying26 rfl sz26) rfl y2

end Go.Proofs.YtjngknnkffbnmaaDoor
