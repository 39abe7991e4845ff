/-
  Layer 19: the reference's Save, walked.
-/
import Derived.Test.YtjngknnkffbnmaaDoorSnRef6q
import Derived.Test.YtjngknnkffbnmaaDoorGP
import Derived.Test.YtjngknnkffbnmaaDoorFrRefFrameq
import Derived.Test.YtjngknnkffbnmaaDoorCdMath2q
namespace Go.Proofs.YtjngknnkffbnmaaDoor
set_option maxRecDepth 100000
open Go.RowKit Crc Sn

namespace Sn
/-- A snapshot. -/
structure Sp where
  ix : Nat
  tm : Nat
  ms : List Int
  ss : Tr
  st : Tr
/-- Its tree. -/
def snapT (s : Sp) : Tr := lisT [.mk 0 s.ix nob [], .mk 0 s.tm nob [], memT s.ms, s.ss, s.st]
/-- Bytes as a record. -/
def frmR : Nat ⊕ List Nat → Nat ⊕ List Nat
  | .inl y => .inl y
  | .inr m => .inr (frm m)
/-- What Save tells: an error, or bytes. -/
def saveV (s : Sp) : Nat ⊕ List Nat := if memB s.ms = false then .inl 1 else if s.ix > 4611686018427387904 then .inl 2 else frmR (encT (snapT s) 64 [])
theorem keep4s {W w' : World} {B : Nat} {u0 u1 u2 u3 : Value} (h : W.cell? ⟨B, 0, none⟩ = some u0 ∧ W.cell? ⟨B, 1, none⟩ = some u1 ∧ W.cell? ⟨B, 2, none⟩ = some u2 ∧ W.cell? ⟨B, 3, none⟩ = some u3) (k : Below W.heap.size W w') : w'.cell? ⟨B, 0, none⟩ = some u0 ∧ w'.cell? ⟨B, 1, none⟩ = some u1 ∧ w'.cell? ⟨B, 2, none⟩ = some u2 ∧ w'.cell? ⟨B, 3, none⟩ = some u3 := by
  obtain ⟨h0, h1, h2, h3⟩ := h
  exact ⟨cell_kept k (Nat.le_refl _) h0, cell_kept k (Nat.le_refl _) h1, cell_kept k (Nat.le_refl _) h2, cell_kept k (Nat.le_refl _) h3⟩
theorem keep11 {W w' : World} {B : Nat} {u0 u1 u2 u3 u4 u5 u6 u7 u8 u9 u10 : Value} (h : W.cell? ⟨B, 0, none⟩ = some u0 ∧ W.cell? ⟨B, 1, none⟩ = some u1 ∧ W.cell? ⟨B, 2, none⟩ = some u2 ∧ W.cell? ⟨B, 3, none⟩ = some u3 ∧ W.cell? ⟨B, 4, none⟩ = some u4 ∧ W.cell? ⟨B, 5, none⟩ = some u5 ∧ W.cell? ⟨B, 6, none⟩ = some u6 ∧ W.cell? ⟨B, 7, none⟩ = some u7 ∧ W.cell? ⟨B, 8, none⟩ = some u8 ∧ W.cell? ⟨B, 9, none⟩ = some u9 ∧ W.cell? ⟨B, 10, none⟩ = some u10) (k : Below W.heap.size W w') :
    w'.cell? ⟨B, 0, none⟩ = some u0 ∧ w'.cell? ⟨B, 1, none⟩ = some u1 ∧ w'.cell? ⟨B, 2, none⟩ = some u2 ∧ w'.cell? ⟨B, 3, none⟩ = some u3 ∧ w'.cell? ⟨B, 4, none⟩ = some u4 ∧ w'.cell? ⟨B, 5, none⟩ = some u5 ∧ w'.cell? ⟨B, 6, none⟩ = some u6 ∧ w'.cell? ⟨B, 7, none⟩ = some u7 ∧ w'.cell? ⟨B, 8, none⟩ = some u8 ∧ w'.cell? ⟨B, 9, none⟩ = some u9 ∧ w'.cell? ⟨B, 10, none⟩ = some u10 := by
  obtain ⟨h0, h1, h2, h3, h4, h5, h6, h7, h8, h9, h10⟩ := h
  exact ⟨cell_kept k (Nat.le_refl _) h0, cell_kept k (Nat.le_refl _) h1, cell_kept k (Nat.le_refl _) h2, cell_kept k (Nat.le_refl _) h3, cell_kept k (Nat.le_refl _) h4, cell_kept k (Nat.le_refl _) h5, cell_kept k (Nat.le_refl _) h6, cell_kept k (Nat.le_refl _) h7, cell_kept k (Nat.le_refl _) h8, cell_kept k (Nat.le_refl _) h9, cell_kept k (Nat.le_refl _) h10⟩
theorem block11 {w : World} {b : Nat} {T : TypeId} {fr : Nat × Nat} {x0 x1 x2 x3 x4 x5 x6 x7 x8 x9 x10 : Value} (h : w.heap[b]? = some (.cells #[x0, x1, x2, x3, x4, x5, x6, x7, x8, x9, x10] T fr)) :
    w.cell? ⟨b, 0, none⟩ = some x0 ∧ w.cell? ⟨b, 1, none⟩ = some x1 ∧ w.cell? ⟨b, 2, none⟩ = some x2 ∧ w.cell? ⟨b, 3, none⟩ = some x3 ∧ w.cell? ⟨b, 4, none⟩ = some x4 ∧ w.cell? ⟨b, 5, none⟩ = some x5 ∧ w.cell? ⟨b, 6, none⟩ = some x6 ∧ w.cell? ⟨b, 7, none⟩ = some x7 ∧ w.cell? ⟨b, 8, none⟩ = some x8 ∧ w.cell? ⟨b, 9, none⟩ = some x9 ∧ w.cell? ⟨b, 10, none⟩ = some x10 :=
  ⟨by rw [Lib.cell_of_heap h]; rfl, by rw [Lib.cell_of_heap h]; rfl, by rw [Lib.cell_of_heap h]; rfl, by rw [Lib.cell_of_heap h]; rfl, by rw [Lib.cell_of_heap h]; rfl, by rw [Lib.cell_of_heap h]; rfl, by rw [Lib.cell_of_heap h]; rfl, by rw [Lib.cell_of_heap h]; rfl, by rw [Lib.cell_of_heap h]; rfl, by rw [Lib.cell_of_heap h]; rfl, by rw [Lib.cell_of_heap h]; rfl⟩
theorem encV_base {r : Nat ⊕ List Nat} {B C : Nat} {w : World} {v : Value} {x : Int} (h : EncV r B w v x) (hC : C ≤ B) : EncV r C w v x := by
  cases r with
  | inl y => exact h
  | inr m => exact ⟨h.1.base hC, h.2⟩
theorem st_mem (l : List Int) : ST (memT l) := by
  unfold memT lisT
  rw [ST_mk]
  refine ⟨by decide, fun t ht => ?_⟩
  obtain ⟨x, hx, rfl⟩ := List.mem_map.1 ht
  unfold numT
  rw [ST_mk]
  exact ⟨by decide, fun t h => by cases h⟩
theorem st_snap {s : Sp} (h1 : ST s.ss) (h2 : ST s.st) : ST (snapT s) := by
  unfold snapT lisT
  rw [ST_mk]
  refine ⟨by decide, fun t ht => ?_⟩
  simp only [List.mem_cons, List.not_mem_nil, or_false] at ht
  rcases ht with rfl | rfl | rfl | rfl | rfl
  · rw [ST_mk]; exact ⟨by decide, fun t h => by cases h⟩
  · rw [ST_mk]; exact ⟨by decide, fun t h => by cases h⟩
  · exact st_mem _
  · exact h1
  · exact h2
theorem cnt_mem (l : List Int) : (memT l).cnt = 1 + l.length := by
  unfold memT lisT
  rw [Tr.cnt_mk]
  have : cnts (l.map numT) = l.length := by
    induction l with
    | nil => simp [cnts_nil]
    | cons a l ih => rw [List.map_cons, cnts_cons, ih, List.length_cons]; unfold numT; rw [Tr.cnt_mk, cnts_nil]; omega
  omega
theorem cnt_snap (s : Sp) : (snapT s).cnt = 4 + s.ms.length + s.ss.cnt + s.st.cnt := by
  unfold snapT lisT
  rw [Tr.cnt_mk]
  simp only [cnts_cons, cnts_nil, cnt_mem, Tr.cnt_mk]
  omega
end Sn

set_option maxHeartbeats 8000000 in
theorem rSave_any (s : Sp) (mv : Value) (k1 k2 : Int) (n1 n2 : Nat) (s1 s2 : ByteArray) (u1 u2 : Value) (w : World) (hm : NR w mv s.ms) (h1 : CR w s.ss (cellV k1 n1 s1 u1)) (h2 : CR w s.st (cellV k2 n2 s2 u2)) (hix : s.ix < 18446744073709551616) (htm : s.tm < 18446744073709551616) (hml : s.ms.length ≤ 1000000) (hc1 : s.ss.cnt ≤ 400000) (hc2 : s.st.cnt ≤ 400000) (hs1 : ST s.ss) (hs2 : ST s.st) :
    Calls Tryd.prog 11 #[.agg #[.int .u64 s.ix, .int .u64 s.tm, mv, .int .i64 k1, .int .u64 n1, .string s1, u1, .int .i64 k2, .int .u64 n2, .string s2, u2]] w (Encd (saveV s) w) := by
  obtain ⟨a, cap, rfl, -, -, -, -⟩ := hm.form
  obtain ⟨-, -, -, a1, cp1, rfl⟩ := crTop h1
  obtain ⟨-, -, -, a2, cp2, rfl⟩ := crTop h2
  have HM := hide_p hm
  have H1 := hide_p h1
  have H2 := hide_p h2
  have HMB : Hid (∀ w', Below w.heap.size w w' → Calls Tryd.prog 13 #[.slice a s.ms.length cap] w' fun e w'' => e = .returned (.bool (memB s.ms)) ∧ Below w'.heap.size w' w'') := fun w' hb => rMembers_any s.ms _ w' (HM.out.kept hb (Nat.le_refl _)) (by omega)
  have HMT : Hid (∀ w', Below w.heap.size w w' → Calls Tryd.prog 33 #[.slice a s.ms.length cap] w' fun e w'' => ∃ u, e = .returned u ∧ CS w'' (fun k => w'.heap.size ≤ k) (memT s.ms) u ∧ Below w'.heap.size w' w'') := fun w' hb => rmembers_any s.ms _ w' (HM.out.kept hb (Nat.le_refl _)) hml
  have HN1 : Hid (∀ (n : Nat) (w : World), Calls Tryd.prog 32 #[.int .u64 n] w fun e w' => e = .returned (.agg #[.int .i64 0, .int .u64 n, .string nob, .slice none 0 0]) ∧ Below w.heap.size w w') := rfnumber_any
  have HL1 : Hid (∀ (a : Option Addr) (n cap : Nat) (w : World), Calls Tryd.prog 31 #[.slice a n cap] w fun e w' => e = .returned (.agg #[.int .i64 2, .int .u64 (0 : Nat), .string nob, .slice a n cap]) ∧ Below w.heap.size w w') := rflist_any
  have HEN : Hid (∀ w' v, CR w' (snapT s) v → memB s.ms = true → Calls Tryd.prog 30 #[v] w' (Encd (encT (snapT s) 64 []) w')) := fun w' v hc hmb => rencode_any _ _ _ hc (by rw [cnt_snap]; have := mem_len hmb; omega) (st_snap hs1 hs2) _ rfl
  have HFR : Hid (∀ (v : Value) (l : List Nat) (w' : World), BR w' v l → l.length ≤ 1048576 → Calls Tryd.prog 34 #[v] w' fun e w'' => ∃ v', e = .returned v' ∧ OW w'' w'.heap.size v' (frm l) ∧ Below w'.heap.size w' w'') := refFrame_any
  have HSV : Hid (saveV s = if memB s.ms = false then .inl 1 else if s.ix > 4611686018427387904 then .inl 2 else frmR (encT (snapT s) 64 [])) := rfl
  have HER : Hid (∀ y, encT (snapT s) 64 [] = .inl y → y = 1 ∨ y = 2) := fun y hy => enc_err _ _ _ y hy
  have HEL : Hid (∀ m, encT (snapT s) 64 [] = .inr m → m.length ≤ 1048576) := fun m hm => (encT_bytes _ _ _ _ hm).2.1
  have HCR : Hid (∀ w6 w7 k3 n3 s3 u3 T, Below w.heap.size w w6 → CR w6 (memT s.ms) (cellV k3 n3 s3 u3) → Below (w6.alloc (.cells #[.int .i64 0, .int .u64 s.ix, .string nob, .slice none 0 0, .int .i64 0, .int .u64 s.tm, .string nob, .slice none 0 0, .int .i64 k3, .int .u64 n3, .string s3, u3, .int .i64 k1, .int .u64 n1, .string s1, .slice a1 s.ss.l.length cp1, .int .i64 k2, .int .u64 n2, .string s2, .slice a2 s.st.l.length cp2] T)).heap.size (w6.alloc (.cells #[.int .i64 0, .int .u64 s.ix, .string nob, .slice none 0 0, .int .i64 0, .int .u64 s.tm, .string nob, .slice none 0 0, .int .i64 k3, .int .u64 n3, .string s3, u3, .int .i64 k1, .int .u64 n1, .string s1, .slice a1 s.ss.l.length cp1, .int .i64 k2, .int .u64 n2, .string s2, .slice a2 s.st.l.length cp2] T)) w7 →
      CR w7 (snapT s) (.agg #[.int .i64 2, .int .u64 (0 : Nat), .string nob, .slice (some ⟨w6.heap.size, 0, none⟩) 5 5])) := by
    intro w6 w7 k3 n3 s3 u3 T hb6 hc3 hb7
    have h67 : Below w6.heap.size w6 w7 := ((Below.refl _ _).alloc (Nat.le_refl _) _).trans (hb7.mono (by simp))
    have hblk := (hb7.block w6.heap.size (by simp)).trans (heap_alloc_new w6 (.cells #[.int .i64 0, .int .u64 s.ix, .string nob, .slice none 0 0, .int .i64 0, .int .u64 s.tm, .string nob, .slice none 0 0, .int .i64 k3, .int .u64 n3, .string s3, u3, .int .i64 k1, .int .u64 n1, .string s1, .slice a1 s.ss.l.length cp1, .int .i64 k2, .int .u64 n2, .string s2, .slice a2 s.st.l.length cp2] T))
    have hw7 : Below w.heap.size w w7 := hb6.trans (h67.mono hb6.size)
    refine CS.cr (cs_block (S := fun _ => True) (l := [⟨0, s.ix, nob, .slice none 0 0⟩, ⟨0, s.tm, nob, .slice none 0 0⟩, ⟨k3, n3, s3, u3⟩, ⟨k1, n1, s1, .slice a1 s.ss.l.length cp1⟩, ⟨k2, n2, s2, .slice a2 s.st.l.length cp2⟩]) hblk rfl rfl (Nat.le_refl 5) (by decide) trivial (fun i hi => ?_))
    match i, hi with
    | 0, _ => exact cs_num _ hix
    | 1, _ => exact cs_num _ htm
    | 2, _ => exact ((hc3.kept h67 (Nat.le_refl _)).cs).widen (fun _ _ => trivial)
    | 3, _ => exact ((H1.out.kept hw7 (Nat.le_refl _)).cs).widen (fun _ _ => trivial)
    | 4, _ => exact ((H2.out.kept hw7 (Nat.le_refl _)).cs).widen (fun _ _ => trivial)
  have HIX := hide_p hix
  have HTM := hide_p htm
  clear hm h1 h2 hix htm hml hc1 hc2 hs1 hs2
  obtain ⟨R, hR⟩ : ∃ R, R = saveV s := ⟨_, rfl⟩
  rw [← hR] at HSV ⊢
  clear hR
  generalize s.ix = ix at *
  generalize s.tm = tm at *
  generalize snapT s = ST0 at *
  generalize encT ST0 64 [] = ER at *
  generalize memT s.ms = MT at *
  generalize memB s.ms = MB at *
  generalize s.ms.length = nm at *
  generalize s.ss.l.length = m1 at *
  generalize s.st.l.length = m2 at *
  obtain ⟨w1, hw1⟩ : ∃ w1, w1 = w.alloc (.cells #[.int .u64 ix, .int .u64 tm, .slice a nm cap, .int .i64 k1, .int .u64 n1, .string s1, .slice a1 m1 cp1, .int .i64 k2, .int .u64 n2, .string s2, .slice a2 m2 cp2] 28) := ⟨_, rfl⟩
  have HB1 : Hid (Below w.heap.size w w1) := by show Below _ _ _; rw [hw1]; exact (Below.refl _ _).alloc (Nat.le_refl _) _
  have HA1 : Hid (w1.heap[w.heap.size]? = some (.cells #[.int .u64 ix, .int .u64 tm, .slice a nm cap, .int .i64 k1, .int .u64 n1, .string s1, .slice a1 m1 cp1, .int .i64 k2, .int .u64 n2, .string s2, .slice a2 m2 cp2] 28 (0, 0))) := by show _ = _; rw [hw1]; exact heap_alloc_new _ _
  have HL1' : Hid (w.heap.size < w1.heap.size) := by show _ < _; rw [hw1]; simp
  obtain ⟨x0, x1, x2, x3, x4, x5, x6, x7, x8, x9, x10⟩ := block11 HA1.out
  go_enter Tryd.func11, Tryd.ntmps11
  go_upto_region 1 with fail
  rw [← hw1]
  clear hw1
  go_wp2_with fail
  refine (HMB.out w1 HB1.out).mono ?_
  rintro e w2 ⟨rfl, hb2⟩
  have HB2 : Hid (Below w.heap.size w w2) := HB1.out.trans (hb2.mono HB1.out.size)
  have hblk2 := (hb2.block _ HL1'.out).trans HA1.out
  clear x0 x1 x2 x3 x4 x5 x6 x7 x8 x9 x10 hb2
  obtain ⟨x0, x1, x2, x3, x4, x5, x6, x7, x8, x9, x10⟩ := block11 hblk2
  clear hblk2
  cases MB with
  | false =>
    have hR : R = .inl 1 := by rw [HSV.out]; simp
    subst hR
    go_wp2
    go_ret2
    exact ⟨_, _, rfl, HB2.out, rfl, rfl⟩
  | true =>
    by_cases ci : ix > 4611686018427387904
    · have hR : R = .inl 2 := by rw [HSV.out]; simp [ci]
      have ci2 : (4611686018427387904 : Int) < (ix : Int) := by omega
      subst hR
      go_wp2
      go_ret2
      exact ⟨_, _, rfl, HB2.out, rfl, rfl⟩
    · have hR : Hid (R = frmR ER) := by show _ = _; rw [HSV.out]; simp [ci]
      have ci2 : ¬ (4611686018427387904 : Int) < (ix : Int) := by omega
      have hq2 : Below w2.heap.size w2 w2.drew := (Below.refl _ _).drew
      have HMT2 := (show Hid (∀ w', Below w2.heap.size w2 w' → Calls Tryd.prog 33 #[.slice a nm cap] w' fun e w'' => ∃ u, e = .returned u ∧ CS w'' (fun k => w'.heap.size ≤ k) MT u ∧ Below w'.heap.size w' w'') from fun w' hb => HMT.out w' (HB2.out.trans (hb.mono HB2.out.size)))
      have HEN2 := (show Hid (∀ w' v, CR w' ST0 v → Calls Tryd.prog 30 #[v] w' (Encd ER w')) from fun w' v hc => HEN.out w' v hc rfl)
      clear HSV HMB HEN
      go_upto_region 5 with fail
      go_cut [4, 5] (fun t4 t5 wc => ∃ (x : Int), t5 = .int .i64 x ∧ Hid (EncV ER w2.heap.size wc t4 x) ∧ Hid (Below w2.heap.size w2 wc))
      case first =>
        go_region_held3 (fun w' => w'.cell? ⟨w.heap.size, 0, none⟩ = some (.int .u64 ix) ∧ w'.cell? ⟨w.heap.size, 1, none⟩ = some (.int .u64 tm) ∧ w'.cell? ⟨w.heap.size, 2, none⟩ = some (.slice a nm cap) ∧ w'.cell? ⟨w.heap.size, 3, none⟩ = some (.int .i64 k1) ∧ w'.cell? ⟨w.heap.size, 4, none⟩ = some (.int .u64 n1) ∧ w'.cell? ⟨w.heap.size, 5, none⟩ = some (.string s1) ∧ w'.cell? ⟨w.heap.size, 6, none⟩ = some (.slice a1 m1 cp1) ∧ w'.cell? ⟨w.heap.size, 7, none⟩ = some (.int .i64 k2) ∧ w'.cell? ⟨w.heap.size, 8, none⟩ = some (.int .u64 n2) ∧ w'.cell? ⟨w.heap.size, 9, none⟩ = some (.string s2) ∧ w'.cell? ⟨w.heap.size, 10, none⟩ = some (.slice a2 m2 cp2))
          (first
            | exact keep11 (by assumption) hbS
            | go_keep)
          (first
            | (go_at_call 30; refine (HEN2.out _ _ hcr).mono ?_; rintro e w8 ⟨v8, x8, rfl, hbS, hev⟩; have hq8 := hq7.trans (hbS.mono hq7.size))
            | (go_at_call 31; refine (HL1.out _ _ _ _).mono ?_; rintro e w7 ⟨rfl, hbS⟩; have hcr := HCR.out _ _ _ _ _ _ _ (HB2.out.trans (hq5.mono HB2.out.size)) hc5.cr hbS; have hq7 := (hq5.alloc hq5.size _).trans (hbS.mono (by have := hq5.size; simp; omega)))
            | (go_at_call 33; refine (HMT2.out _ hq4).mono ?_; rintro e w5 ⟨v5, rfl, hc5, hbS⟩; obtain ⟨k3, n3, s3, a3, m3, e3, rfl⟩ := hc5.form; have hq5 := hq4.trans (hbS.mono hq4.size); unfold cellV)
            | (go_at_call 32; refine (HN1.out tm _).mono ?_; rintro e w4 ⟨rfl, hbS⟩; have hq4 := hq3.trans (hbS.mono hq3.size))
            | (go_at_call 32; refine (HN1.out ix _).mono ?_; rintro e w3 ⟨rfl, hbS⟩; have hq3 := hq2.trans (hbS.mono hq2.size)))
        all_goals go_wp2_with fail
        all_goals go_meet
        exact ⟨x8, rfl, encV_base hev hq7.size, hq8⟩
      case rest =>
        obtain ⟨x, rfl, HEV, HBC⟩ := hcut
        have HBCw : Hid (Below w.heap.size w wc) := HB2.out.trans (HBC.out.mono HB2.out.size)
        have hwle := HB2.out.size
        cases ER with
        | inl y =>
          have hev := HEV.out
          obtain ⟨hv, hx⟩ := hev
          subst hv hx
          have hR2 : R = .inl y := hR.out
          subst hR2
          have hy := HER.out y rfl
          clear HEV HEL HER hR
          rcases hy with rfl | rfl
          · go_wp2
            go_ret2
            exact ⟨_, _, rfl, HBCw.out, rfl, rfl⟩
          · go_wp2
            go_ret2
            exact ⟨_, _, rfl, HBCw.out, rfl, rfl⟩
        | inr m =>
          have hev := HEV.out
          obtain ⟨hv, hx⟩ := hev
          subst hx
          have hR2 : R = .inr (frm m) := hR.out
          subst hR2
          have hbr := hv.br
          have hcall := HFR.out _ m wc hbr (HEL.out m rfl)
          clear hv hbr
          go_wp2_with fail
          refine hcall.mono ?_
          rintro e w9 ⟨v9, rfl, hw9, hb9⟩
          have HQ : Hid (Encd (.inr (frm m)) w (.returned (.tuple #[v9, .int .i64 0])) w9) := ⟨v9, 0, rfl, HBCw.out.trans (hb9.mono HBCw.out.size), hw9.base (by have := HBC.out.size; omega), rfl⟩
          clear hw9 hb9 hcall
          go_wp2
          go_ret2
          exact HQ.out

end Go.Proofs.YtjngknnkffbnmaaDoor
