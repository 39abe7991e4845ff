/-
  Layer 19: the reference's EntryCell, walked.
-/
import Derived.Test.YtjngknnkffbnmaaDoorGS1
import Derived.Deep.RegionHeld3
namespace Go.Proofs.YtjngknnkffbnmaaDoor
set_option maxRecDepth 100000
open Go.RowKit Crc Sn

namespace Sn
theorem results_cell_tmp {P : Program} {fn : Func} {p q : Tmp} {ty : TypeId} (h : fn.results = #[.cell p ty, .tmp q]) (tmps : Array Value) (w : World) (g : Nat) (t : TypeId) (cs : Array Value) (fr : Nat × Nat) (d : TypeDesc)
    (hp : tmps.getD p undef = .pointer (some ⟨g, 0, none⟩)) (hg : w.heap[g]? = some (.cells cs t fr))
    (hu : P.underlying ty = some d) (hd : (match d with | .struct _ | .array _ _ => true | _ => false) = true) (hi : (P.info? ty).map (·.size) = some cs.size) :
    (results fn tmps).run P w = .ok (.tuple #[.agg cs, tmps.getD q undef]) w := by
  have hp' : tmps[p]?.getD undef = .pointer (some ⟨g, 0, none⟩) := by simpa using hp
  simp [results, h, hp', asAddr, run_loadVar_row w g t ty cs fr d hg hu hd hi]
/-- An entry. -/
structure Ent where
  tm : Nat
  kd : Int
  dt : ByteArray
  ms : List Int
/-- Which error an entry has. -/
def entE (x : Ent) : Int := if x.kd < 0 ∨ x.kd > 2 then 1 else if x.kd = 2 then (if memB x.ms = true then 0 else 1) else if x.kd = 1 then (if x.dt.size > 65536 then 2 else 0) else 0
/-- What an entry's list holds. -/
def entL (x : Ent) : List Tr := [.mk 0 x.tm nob [], numT x.kd] ++ (if x.kd = 1 then [.mk 1 0 x.dt []] else if x.kd = 2 then [memT x.ms] else [])
/-- What its cell is. -/
def entT (x : Ent) : Tr := if entE x = 0 then lisT (entL x) else zT
theorem tw_two (w2 : World) (m n : Nat) (hm : m < 18446744073709551616) (hn : n < 18446744073709551616) : TW (w2.alloc (.cells #[.int .i64 0, .int .u64 m, .string nob, .slice none 0 0, .int .i64 0, .int .u64 n, .string nob, .slice none 0 0] 26)) w2.heap.size (.slice (some ⟨w2.heap.size, 0, none⟩) 2 2) [.mk 0 m nob [], .mk 0 n nob []] := by
  refine ⟨_, _, _, _, _, World.ownsRow_lit w2 _ 2 (Nat.le_refl _) (by unfold maxLen; omega) rfl, qsL_quads [⟨0, m, nob, .slice none 0 0⟩, ⟨0, n, nob, .slice none 0 0⟩], fun i hi => ?_⟩
  match i, hi with
  | 0, _ => exact cs_num m hm
  | 1, _ => exact cs_num n hn
/-- What EntryCell tells. -/
def EcR (w : World) (x : Ent) (e : Ending) (w' : World) : Prop := ∃ u, e = .returned (.tuple #[u, .int .i64 (entE x)]) ∧ CS w' (fun k => w.heap.size ≤ k) (entT x) u ∧ Below w.heap.size w w'
theorem ec_bad {w w1 W : World} {b : Nat} {x : Ent} {E : Int} {x0 x1 x2 x3 : Value} (hE : entE x = E) (hE2 : ¬ E = 0) (hblk : w1.heap[b]? = some (.cells #[x0, x1, x2, x3] 26 (0, 0))) (hb : w.heap.size ≤ b) (hB : Below w.heap.size w w1)
    (hW : W = (((w1.setCell ⟨b, 0, none⟩ (.int .i64 0)).setCell ⟨b, 1, none⟩ (.int .u64 (0 : Nat))).setCell ⟨b, 2, none⟩ (.string nob)).setCell ⟨b, 3, none⟩ (.slice none 0 0)) :
    W.heap[b]? = some (.cells #[.int .i64 0, .int .u64 (0 : Nat), .string nob, .slice none 0 0] 26 (0, 0)) ∧ EcR w x (.returned (.tuple #[.agg #[.int .i64 0, .int .u64 (0 : Nat), .string nob, .slice none 0 0], .int .i64 E])) W := by
  subst hW
  refine ⟨set4_block hblk _ _ _ _, _, by rw [hE], ?_, set4_below hB hb _ _ _ _⟩
  unfold entT
  rw [hE, if_neg hE2]
  exact cs_num 0 (by decide)
theorem ec_good {w w5 W : World} {b : Nat} {x : Ent} {B : Nat} {a : Option Addr} {n c : Nat} {x0 x1 x2 x3 : Value} (hE : entE x = 0) (hblk : w5.heap[b]? = some (.cells #[x0, x1, x2, x3] 26 (0, 0))) (hb : w.heap.size ≤ b) (hbB : b < B) (hB : Below w.heap.size w w5) (hc : CS w5 (fun k => B ≤ k) (lisT (entL x)) (cellV 2 0 nob (.slice a n c)))
    (hW : W = (((w5.setCell ⟨b, 0, none⟩ (.int .i64 2)).setCell ⟨b, 1, none⟩ (.int .u64 (0 : Nat))).setCell ⟨b, 2, none⟩ (.string nob)).setCell ⟨b, 3, none⟩ (.slice a n c)) :
    W.heap[b]? = some (.cells #[.int .i64 2, .int .u64 (0 : Nat), .string nob, .slice a n c] 26 (0, 0)) ∧ EcR w x (.returned (.tuple #[.agg #[.int .i64 2, .int .u64 (0 : Nat), .string nob, .slice a n c], .int .i64 0])) W := by
  subst hW
  refine ⟨set4_block hblk _ _ _ _, _, by rw [hE], ?_, set4_below hB hb _ _ _ _⟩
  unfold entT
  rw [hE, if_pos rfl]
  exact (hc.kept (fun q hq => set4_other (by omega) _ _ _ _)).widen (fun q hq => by omega)
end Sn
theorem sz26 : (Tryd.prog.info? 26).map (fun i => i.size) = some 4 := by kernel_rfl

set_option maxHeartbeats 8000000 in
theorem rEntryCell_any (x : Ent) (v : Value) (w : World) (hm : NR w v x.ms) (htm : x.tm < 18446744073709551616) (hdt : x.dt.size ≤ 9223372036854775807) (hml : x.ms.length ≤ 1000000) :
    Calls Tryd.prog 18 #[.agg #[.int .u64 x.tm, .int .i64 x.kd, .string x.dt, v]] w (EcR w x) := by
  obtain ⟨i0, hi0, hz0, hz1, hz2⟩ := info_parts info25b
  obtain ⟨a, cap, rfl, -, -, -, -⟩ := hm.form
  have HM := hide_p hm
  obtain ⟨w1, hw1⟩ : ∃ w1, w1 = (w.alloc (.cells #[.int .u64 x.tm, .int .i64 x.kd, .string x.dt, .slice a x.ms.length cap] 46)).alloc (.cells #[.int .i64 0, .int .u64 0, .string ⟨#[]⟩, .slice none 0 0] 26) := ⟨_, rfl⟩
  have HS1 : Hid (w1.heap.size = w.heap.size + 2) := by show _ = _; rw [hw1]; simp
  have HB1 : Hid (Below w.heap.size w w1) := by show Below _ _ _; rw [hw1]; exact ((Below.refl _ _).alloc (Nat.le_refl _) _).alloc (by simp) _
  have HA1 : Hid (w1.heap[w.heap.size]? = some (.cells #[.int .u64 x.tm, .int .i64 x.kd, .string x.dt, .slice a x.ms.length cap] 46 (0, 0)) ∧ w1.heap[w.heap.size + 1]? = some (.cells #[.int .i64 0, .int .u64 0, .string ⟨#[]⟩, .slice none 0 0] 26 (0, 0))) := by
    show _ ∧ _
    rw [hw1]
    exact ⟨by rw [Below.heap_alloc _ _ _ (by simp)]; exact heap_alloc_new _ _, heap_alloc_at _ _ _ (by simp)⟩
  have HN1 : Hid (∀ (n : Nat) (w : World), Calls Tryd.prog 32 #[.int .u64 n] w fun e w' => e = .returned (.agg #[.int .i64 0, .int .u64 n, .string nob, .slice none 0 0]) ∧ Below w.heap.size w w') := rfnumber_any
  have HX1 : Hid (∀ (s : ByteArray) (w : World), Calls Tryd.prog 44 #[.string s] w fun e w' => e = .returned (.agg #[.int .i64 1, .int .u64 (0 : Nat), .string s, .slice none 0 0]) ∧ Below w.heap.size w w') := rftext_any
  have HL1 : Hid (∀ (a : Option Addr) (n cap : Nat) (w : World), Calls Tryd.prog 31 #[.slice a n cap] w fun e w' => e = .returned (.agg #[.int .i64 2, .int .u64 (0 : Nat), .string nob, .slice a n cap]) ∧ Below w.heap.size w w') := rflist_any
  have HMB : Hid (∀ w', Below w.heap.size w w' → Calls Tryd.prog 13 #[.slice a x.ms.length cap] w' fun e w'' => e = .returned (.bool (memB x.ms)) ∧ Below w'.heap.size w' w'') := fun w' hb => rMembers_any x.ms _ w' (HM.out.kept hb (Nat.le_refl _)) (by omega)
  have HMT : Hid (∀ w', Below w.heap.size w w' → Calls Tryd.prog 33 #[.slice a x.ms.length cap] w' fun e w'' => ∃ u, e = .returned u ∧ CS w'' (fun k => w'.heap.size ≤ k) (memT x.ms) u ∧ Below w'.heap.size w' w'') := fun w' hb => rmembers_any x.ms _ w' (HM.out.kept hb (Nat.le_refl _)) hml
  have HR : Hid (EcR w x = EcR w x) := rfl
  have HDEF : Hid (entE x = (if x.kd < 0 ∨ x.kd > 2 then 1 else if x.kd = 2 then (if memB x.ms = true then 0 else 1) else if x.kd = 1 then (if x.dt.size > 65536 then 2 else 0) else 0) ∧ entL x = [.mk 0 x.tm nob [], numT x.kd] ++ (if x.kd = 1 then [.mk 1 0 x.dt []] else if x.kd = 2 then [memT x.ms] else [])) := ⟨rfl, rfl⟩
  have HTM := hide_p htm
  have HDT := hide_p hdt
  have HBAD : Hid (∀ (w1 W : World) (E : Int) (x0 x1 x2 x3 : Value), entE x = E → ¬ E = 0 → w1.heap[w.heap.size + 1]? = some (.cells #[x0, x1, x2, x3] 26 (0, 0)) → Below w.heap.size w w1 →
    W = (((w1.setCell ⟨w.heap.size + 1, 0, none⟩ (.int .i64 0)).setCell ⟨w.heap.size + 1, 1, none⟩ (.int .u64 (0 : Nat))).setCell ⟨w.heap.size + 1, 2, none⟩ (.string nob)).setCell ⟨w.heap.size + 1, 3, none⟩ (.slice none 0 0) →
    W.heap[w.heap.size + 1]? = some (.cells #[.int .i64 0, .int .u64 (0 : Nat), .string nob, .slice none 0 0] 26 (0, 0)) ∧ EcR w x (.returned (.tuple #[.agg #[.int .i64 0, .int .u64 (0 : Nat), .string nob, .slice none 0 0], .int .i64 E])) W) := fun w1 W E x0 x1 x2 x3 h1 h2 h3 h4 h5 => ec_bad h1 h2 h3 (Nat.le_succ _) h4 h5
  have HGOOD : Hid (∀ (w5 : World) (B : Nat) (a : Option Addr) (n c : Nat) (x0 x1 x2 x3 : Value), entE x = 0 → w5.heap[w.heap.size + 1]? = some (.cells #[x0, x1, x2, x3] 26 (0, 0)) → w.heap.size + 1 < B → Below w.heap.size w w5 → CS w5 (fun k => B ≤ k) (lisT (entL x)) (cellV 2 0 nob (.slice a n c)) → ∀ W,
    W = (((w5.setCell ⟨w.heap.size + 1, 0, none⟩ (.int .i64 2)).setCell ⟨w.heap.size + 1, 1, none⟩ (.int .u64 (0 : Nat))).setCell ⟨w.heap.size + 1, 2, none⟩ (.string nob)).setCell ⟨w.heap.size + 1, 3, none⟩ (.slice a n c) →
    W.heap[w.heap.size + 1]? = some (.cells #[.int .i64 2, .int .u64 (0 : Nat), .string nob, .slice a n c] 26 (0, 0)) ∧ EcR w x (.returned (.tuple #[.agg #[.int .i64 2, .int .u64 (0 : Nat), .string nob, .slice a n c], .int .i64 0])) W) := fun w5 B a n c x0 x1 x2 x3 h1 h2 h3 h4 h5 W hW => ec_good h1 h2 (Nat.le_succ _) h3 h4 h5 hW
  obtain ⟨E, hE⟩ : ∃ E, E = entE x := ⟨_, rfl⟩
  obtain ⟨L, hL⟩ : ∃ L, L = entL x := ⟨_, rfl⟩
  obtain ⟨R, hR⟩ : ∃ R, R = EcR w x := ⟨_, rfl⟩
  rw [← hE, ← hL] at HDEF
  rw [← hE, ← hR] at HBAD
  rw [← hE, ← hL, ← hR] at HGOOD
  rw [← hR]
  have HMLL := hide_p hml
  clear hm htm hdt hml hE hL hR HR
  generalize x.tm = tm at *
  generalize x.kd = kd at *
  generalize x.dt = dt at *
  generalize x.ms.length = nm at *
  obtain ⟨MB, hMB⟩ : ∃ MB, MB = memB x.ms := ⟨_, rfl⟩
  obtain ⟨MT, hMT⟩ : ∃ MT, MT = memT x.ms := ⟨_, rfl⟩
  rw [← hMB] at HMB
  rw [← hMT] at HMT
  rw [← hMB, ← hMT] at HDEF
  clear hMB hMT
  obtain ⟨x0, x1, x2, x3⟩ := block4 HA1.out.1
  have hkd := uw_wrap kd
  have hq1 : Below w1.heap.size w1 w1.drew := (Below.refl _ _).drew
  go_enter Tryd.func18, Tryd.ntmps18
  go_upto_region 1 with fail
  rw [← hw1]
  clear hw1
  go_cut [4] (fun t4 wc => ∃ w3, t4 = .slice (some ⟨w3.heap.size, 0, none⟩) 2 2 ∧ wc = w3.alloc (.cells #[.int .i64 0, .int .u64 tm, .string nob, .slice none 0 0, .int .i64 0, .int .u64 (uw kd), .string nob, .slice none 0 0] 26) ∧ Hid (Below w1.heap.size w1 w3))
  case first =>
    go_region_held3 (fun w' => w'.cell? ⟨w.heap.size, 0, none⟩ = some (.int .u64 tm) ∧ w'.cell? ⟨w.heap.size, 1, none⟩ = some (.int .i64 kd))
      (first
        | exact keep2s (by assumption) hbS (Nat.le_refl _)
        | go_keep)
      (first
        | (go_at_call 32; refine (HN1.out (uw kd) _).mono ?_; rintro e w3 ⟨rfl, hbS⟩; have hq3 := hq2.trans (hbS.mono hq2.size))
        | (go_at_call 32; refine (HN1.out tm _).mono ?_; rintro e w2 ⟨rfl, hbS⟩; have hq2 := hq1.trans (hbS.mono hq1.size)))
    all_goals go_wp2_with fail
    all_goals go_meet
    all_goals exact ⟨w3, rfl, rfl, hq3⟩
  case rest =>
    obtain ⟨w3, rfl, hwc, HB3⟩ := hcut
    have HTW : Hid (TW wc w3.heap.size (.slice (some ⟨w3.heap.size, 0, none⟩) 2 2) [.mk 0 tm nob [], numT kd]) := by rw [hwc]; exact tw_two w3 tm (uw kd) HTM.out (uw_lt kd)
    have HB4 : Hid (Below w1.heap.size w1 wc) := by show Below _ _ _; rw [hwc]; exact HB3.out.alloc HB3.out.size _
    have HB4w : Hid (Below w.heap.size w wc) := HB1.out.trans (HB4.out.mono HB1.out.size)
    have HSZ : Hid (w.heap.size + 2 ≤ w3.heap.size ∧ w3.heap.size < wc.heap.size) := by
      have h1 := HB3.out.size
      have h2 := HS1.out
      refine ⟨by omega, ?_⟩
      rw [hwc]
      simp
    have HY : Hid (∀ wq, Below wc.heap.size wc wq → wq.heap[w.heap.size]? = some (.cells #[.int .u64 tm, .int .i64 kd, .string dt, .slice a nm cap] 46 (0, 0)) ∧ wq.heap[w.heap.size + 1]? = some (.cells #[.int .i64 0, .int .u64 0, .string ⟨#[]⟩, .slice none 0 0] 26 (0, 0)) ∧ Below w.heap.size w wq) := by
      intro wq hq
      have h1 := HSZ.out
      have h2 := HS1.out
      refine ⟨((hq.block _ (by omega)).trans (HB4.out.block _ (by omega))).trans HA1.out.1, ((hq.block _ (by omega)).trans (HB4.out.block _ (by omega))).trans HA1.out.2, HB4w.out.trans (hq.mono HB4w.out.size)⟩
    clear hwc x0 x1 x2 x3 hq1 hkd
    by_cases k1 : kd < 0
    · have hE0 : E = 1 := by rw [HDEF.out.1, if_pos (Or.inl k1)]
      obtain ⟨q0, q1, q2⟩ := HY.out wc (Below.refl _ _)
      obtain ⟨x0, x1, x2, x3⟩ := block4 q0
      obtain ⟨c0, c1, c2, c3⟩ := block4 q1
      have fz := Lib.frozen_of_heap q1
      have f0 := fz 0
      have f1 := fz 1
      have f2 := fz 2
      have f3 := fz 3
      have HE := hide_p (fun W => HBAD.out wc W 1 _ _ _ _ hE0 (by decide) q1 q2)
      clear q0 q1 q2 fz hE0
      go_wp2
      obtain ⟨y1, y2⟩ := HE.out _ rfl
      exact bodyPost_ret (Sn.results_cell_tmp (p := 2) (q := 3) rfl _ _ (w.heap.size + 1) _ _ _ _ rfl y1 Tryd.underlying26 rfl sz26) rfl y2
    · by_cases k2 : kd > 2
      · have hE0 : E = 1 := by rw [HDEF.out.1, if_pos (Or.inr k2)]
        obtain ⟨q0, q1, q2⟩ := HY.out wc (Below.refl _ _)
        obtain ⟨x0, x1, x2, x3⟩ := block4 q0
        obtain ⟨c0, c1, c2, c3⟩ := block4 q1
        have fz := Lib.frozen_of_heap q1
        have f0 := fz 0
        have f1 := fz 1
        have f2 := fz 2
        have f3 := fz 3
        have HE := hide_p (fun W => HBAD.out wc W 1 _ _ _ _ hE0 (by decide) q1 q2)
        clear q0 q1 q2 fz hE0
        go_wp2
        obtain ⟨y1, y2⟩ := HE.out _ rfl
        exact bodyPost_ret (Sn.results_cell_tmp (p := 2) (q := 3) rfl _ _ (w.heap.size + 1) _ _ _ _ rfl y1 Tryd.underlying26 rfl sz26) rfl y2
      · have k3 : kd = 0 ∨ kd = 1 ∨ kd = 2 := by omega
        rcases k3 with rfl | rfl | rfl
        · have hE0 : E = 0 := by rw [HDEF.out.1]; simp
          have HCS : Hid (CS wc (fun k => w3.heap.size ≤ k) (lisT L) (cellV 2 0 nob (.slice (some ⟨w3.heap.size, 0, none⟩) 2 2))) := by
            rw [HDEF.out.2]
            exact HTW.out.cs rfl 2 0 nob (by decide) (by decide) (by decide)
          obtain ⟨x0, x1, x2, x3⟩ := block4 (HY.out wc (Below.refl _ _)).1
          have hcs := HCS.out
          go_wp2_with fail
          refine (HL1.out _ _ _ wc).mono ?_
          rintro e w9 ⟨rfl, hb9⟩
          have HB9 : Hid (Below wc.heap.size wc w9) := hb9
          clear x0 x1 x2 x3
          obtain ⟨q0, q1, q2⟩ := HY.out w9 HB9.out
          obtain ⟨x0, x1, x2, x3⟩ := block4 q0
          obtain ⟨c0, c1, c2, c3⟩ := block4 q1
          have fz := Lib.frozen_of_heap q1
          have f0 := fz 0
          have f1 := fz 1
          have f2 := fz 2
          have f3 := fz 3
          have HE := hide_p (HGOOD.out w9 w3.heap.size _ _ _ _ _ _ _ hE0 q1 (by have := HSZ.out; omega) q2 (csLater hcs hb9))
          clear q0 q1 q2 fz hE0 hcs hb9
          go_wp2
          obtain ⟨y1, y2⟩ := HE.out _ rfl
          exact bodyPost_ret (Sn.results_cell_tmp (p := 2) (q := 3) rfl _ _ (w.heap.size + 1) _ _ _ _ rfl y1 Tryd.underlying26 rfl sz26) rfl y2
        · by_cases k4 : dt.size > 65536
          · have hE0 : E = 2 := by rw [HDEF.out.1]; simp [k4]
            have k4' : (65536 : Int) < (dt.size : Int) := by omega
            obtain ⟨q0, q1, q2⟩ := HY.out wc (Below.refl _ _)
            obtain ⟨x0, x1, x2, x3⟩ := block4 q0
            obtain ⟨c0, c1, c2, c3⟩ := block4 q1
            have fz := Lib.frozen_of_heap q1
            have f0 := fz 0
            have f1 := fz 1
            have f2 := fz 2
            have f3 := fz 3
            have HE := hide_p (fun W => HBAD.out wc W 2 _ _ _ _ hE0 (by decide) q1 q2)
            clear q0 q1 q2 fz hE0
            go_wp2
            obtain ⟨y1, y2⟩ := HE.out _ rfl
            exact bodyPost_ret (Sn.results_cell_tmp (p := 2) (q := 3) rfl _ _ (w.heap.size + 1) _ _ _ _ rfl y1 Tryd.underlying26 rfl sz26) rfl y2
          · have hE0 : E = 0 := by rw [HDEF.out.1]; simp [k4]
            have k4' : ¬ (65536 : Int) < (dt.size : Int) := by omega
            obtain ⟨x0, x1, x2, x3⟩ := block4 (HY.out wc (Below.refl _ _)).1
            go_wp2_with fail
            refine (HX1.out dt wc).mono ?_
            rintro e w5 ⟨rfl, hb5⟩
            obtain ⟨xs, -, ho, hnx⟩ := HTW.out.snoc (Nat.le_of_lt HSZ.out.2) hb5 (cs_txt (S := fun k => wc.heap.size ≤ k) (w := w5) dt HDT.out) (.cells #[.int .i64 1, .int .u64 (0 : Nat), .string dt, (.slice none 0 0)] 26)
            have HNX := hide_p hnx
            have HB5 := hide_p hb5
            have hs5 := hb5.size
            have hsz1 := HSZ.out.1
            have hsz2 := HSZ.out.2
            clear hb5 hnx x0 x1 x2 x3
            go_wp2_with (at_builtin; refine wpList_append_lies _ rfl _ _ 24 rfl w3.heap.size 26 i0 _ 4 56 Tryd.underlying24 hi0 hz0 hz1 hz2 rfl (by decide) _ 2 xs rfl ho ⟨w5.heap.size, 0, none⟩ 1 1 (quad 1 0 dt (.slice none 0 0)) rfl rfl (cells_quad _ _ _ _ _ _) (by intro u hu; simp [quad] at hu; rcases hu with rfl | rfl | rfl | rfl <;> rfl) (by decide) (by unfold maxLen; omega) (by omega) (by simp; omega) _ rfl ?_)
            intro g8 cap8 w8 hown hgrow hat hlt
            have ht8 := HNX.out w8 g8 cap8 hown hgrow (by simpa using hat)
            have HCS : Hid (CS w8 (fun k => w3.heap.size ≤ k) (lisT L) (cellV 2 0 nob (.slice (some ⟨g8, 0, none⟩) 3 cap8))) := by
              rw [HDEF.out.2]
              exact ht8.cs rfl 2 0 nob (by decide) (by decide) (by decide)
            have HBk : Hid (Below w3.heap.size wc w8) := ((HB5.out.mono (Nat.le_of_lt hsz2)).alloc (by omega) _).grown hgrow (by simp; omega) (fun k hk => (ho.lt k hk).1)
            have HYk : Hid (∀ wq, Below w8.heap.size w8 wq → wq.heap[w.heap.size]? = some (.cells #[.int .u64 tm, .int .i64 1, .string dt, .slice a nm cap] 46 (0, 0)) ∧ wq.heap[w.heap.size + 1]? = some (.cells #[.int .i64 0, .int .u64 0, .string ⟨#[]⟩, .slice none 0 0] 26 (0, 0)) ∧ Below w.heap.size w wq) := by
              intro wq hq
              obtain ⟨z0, z1, z2⟩ := HY.out wc (Below.refl _ _)
              have hs8 := HBk.out.size
              exact ⟨((hq.block _ (by omega)).trans (HBk.out.block _ (by omega))).trans z0, ((hq.block _ (by omega)).trans (HBk.out.block _ (by omega))).trans z1, (HB4w.out.trans (HBk.out.mono (by omega))).trans (hq.mono (by have := HB4w.out.size; omega))⟩
            clear ht8 HNX hown hgrow hat hlt ho hs5 hsz1 hsz2
            obtain ⟨x0, x1, x2, x3⟩ := block4 (HYk.out w8 (Below.refl _ _)).1
            have hcs := HCS.out
            go_wp2_with fail
            refine (HL1.out _ _ _ w8).mono ?_
            rintro e w9 ⟨rfl, hb9⟩
            have HB9 := hide_p hb9
            clear x0 x1 x2 x3
            obtain ⟨q0, q1, q2⟩ := HYk.out w9 HB9.out
            obtain ⟨x0, x1, x2, x3⟩ := block4 q0
            obtain ⟨c0, c1, c2, c3⟩ := block4 q1
            have fz := Lib.frozen_of_heap q1
            have f0 := fz 0
            have f1 := fz 1
            have f2 := fz 2
            have f3 := fz 3
            have HE := hide_p (HGOOD.out w9 w3.heap.size _ _ _ _ _ _ _ hE0 q1 (by have := HSZ.out; omega) q2 (csLater hcs hb9))
            clear q0 q1 q2 fz hE0 hcs hb9
            go_wp2
            obtain ⟨y1, y2⟩ := HE.out _ rfl
            exact bodyPost_ret (Sn.results_cell_tmp (p := 2) (q := 3) rfl _ _ (w.heap.size + 1) _ _ _ _ rfl y1 Tryd.underlying26 rfl sz26) rfl y2
        · cases MB with
          | false =>
            have hE0 : E = 1 := by rw [HDEF.out.1]; simp
            obtain ⟨x0, x1, x2, x3⟩ := block4 (HY.out wc (Below.refl _ _)).1
            go_wp2_with fail
            refine (HMB.out wc HB4w.out).mono ?_
            rintro e w5 ⟨rfl, hb5⟩
            have HB5 := hide_p hb5
            clear x0 x1 x2 x3 hb5
            obtain ⟨q0, q1, q2⟩ := HY.out w5 HB5.out
            obtain ⟨x0, x1, x2, x3⟩ := block4 q0
            obtain ⟨c0, c1, c2, c3⟩ := block4 q1
            have fz := Lib.frozen_of_heap q1
            have f0 := fz 0
            have f1 := fz 1
            have f2 := fz 2
            have f3 := fz 3
            have HE := hide_p (fun W => HBAD.out w5 W 1 _ _ _ _ hE0 (by decide) q1 q2)
            clear q0 q1 q2 fz hE0
            go_wp2
            obtain ⟨y1, y2⟩ := HE.out _ rfl
            exact bodyPost_ret (Sn.results_cell_tmp (p := 2) (q := 3) rfl _ _ (w.heap.size + 1) _ _ _ _ rfl y1 Tryd.underlying26 rfl sz26) rfl y2
          | true =>
            have hE0 : E = 0 := by rw [HDEF.out.1]; simp
            obtain ⟨x0, x1, x2, x3⟩ := block4 (HY.out wc (Below.refl _ _)).1
            go_wp2_with fail
            refine (HMB.out wc HB4w.out).mono ?_
            rintro e w4 ⟨rfl, hb4⟩
            have HB4' := hide_p hb4
            obtain ⟨q0, -, q2⟩ := HY.out w4 hb4
            have HQ2 := hide_p q2
            clear x0 x1 x2 x3 hb4 q2
            obtain ⟨x0, x1, x2, x3⟩ := block4 q0
            clear q0
            go_wp2_with fail
            refine (HMT.out w4 HQ2.out).mono ?_
            rintro e w5 ⟨u5, rfl, hc5, hb5'⟩
            have hb5 := HB4'.out.trans (hb5'.mono HB4'.out.size)
            obtain ⟨k5, n5, s5, a5, m5, c5, rfl⟩ := hc5.form
            have hc5' := hc5.widen (S' := fun k => wc.heap.size ≤ k) (fun k hk => Nat.le_trans HB4'.out.size hk)
            unfold cellV
            clear hc5 hb5'
            obtain ⟨xs, -, ho, hnx⟩ := HTW.out.snoc (Nat.le_of_lt HSZ.out.2) hb5 hc5' (.cells #[.int .i64 k5, .int .u64 (n5 : Nat), .string s5, (.slice a5 m5 c5)] 26)
            have HNX := hide_p hnx
            have HB5 := hide_p hb5
            have hs5 := hb5.size
            have hsz1 := HSZ.out.1
            have hsz2 := HSZ.out.2
            clear hb5 hnx x0 x1 x2 x3
            go_wp2_with (at_builtin; refine wpList_append_lies _ rfl _ _ 24 rfl w3.heap.size 26 i0 _ 4 56 Tryd.underlying24 hi0 hz0 hz1 hz2 rfl (by decide) _ 2 xs rfl ho ⟨w5.heap.size, 0, none⟩ 1 1 (quad k5 n5 s5 (.slice a5 m5 c5)) rfl rfl (cells_quad _ _ _ _ _ _) (by intro u hu; simp [quad] at hu; rcases hu with rfl | rfl | rfl | rfl <;> rfl) (by decide) (by unfold maxLen; omega) (by omega) (by simp; omega) _ rfl ?_)
            intro g8 cap8 w8 hown hgrow hat hlt
            have ht8 := HNX.out w8 g8 cap8 hown hgrow (by simpa using hat)
            have HCS : Hid (CS w8 (fun k => w3.heap.size ≤ k) (lisT L) (cellV 2 0 nob (.slice (some ⟨g8, 0, none⟩) 3 cap8))) := by
              rw [HDEF.out.2]
              exact ht8.cs rfl 2 0 nob (by decide) (by decide) (by decide)
            have HBk : Hid (Below w3.heap.size wc w8) := ((HB5.out.mono (Nat.le_of_lt hsz2)).alloc (by omega) _).grown hgrow (by simp; omega) (fun k hk => (ho.lt k hk).1)
            have HYk : Hid (∀ wq, Below w8.heap.size w8 wq → wq.heap[w.heap.size]? = some (.cells #[.int .u64 tm, .int .i64 2, .string dt, .slice a nm cap] 46 (0, 0)) ∧ wq.heap[w.heap.size + 1]? = some (.cells #[.int .i64 0, .int .u64 0, .string ⟨#[]⟩, .slice none 0 0] 26 (0, 0)) ∧ Below w.heap.size w wq) := by
              intro wq hq
              obtain ⟨z0, z1, z2⟩ := HY.out wc (Below.refl _ _)
              have hs8 := HBk.out.size
              exact ⟨((hq.block _ (by omega)).trans (HBk.out.block _ (by omega))).trans z0, ((hq.block _ (by omega)).trans (HBk.out.block _ (by omega))).trans z1, (HB4w.out.trans (HBk.out.mono (by omega))).trans (hq.mono (by have := HB4w.out.size; omega))⟩
            clear ht8 HNX hown hgrow hat hlt ho hs5 hsz1 hsz2
            obtain ⟨x0, x1, x2, x3⟩ := block4 (HYk.out w8 (Below.refl _ _)).1
            have hcs := HCS.out
            go_wp2_with fail
            refine (HL1.out _ _ _ w8).mono ?_
            rintro e w9 ⟨rfl, hb9⟩
            have HB9 := hide_p hb9
            clear x0 x1 x2 x3
            obtain ⟨q0, q1, q2⟩ := HYk.out w9 HB9.out
            obtain ⟨x0, x1, x2, x3⟩ := block4 q0
            obtain ⟨c0, c1, c2, c3⟩ := block4 q1
            have fz := Lib.frozen_of_heap q1
            have f0 := fz 0
            have f1 := fz 1
            have f2 := fz 2
            have f3 := fz 3
            have HE := hide_p (HGOOD.out w9 w3.heap.size _ _ _ _ _ _ _ hE0 q1 (by have := HSZ.out; omega) q2 (csLater hcs hb9))
            clear q0 q1 q2 fz hE0 hcs hb9
            go_wp2
            obtain ⟨y1, y2⟩ := HE.out _ rfl
            exact bodyPost_ret (Sn.results_cell_tmp (p := 2) (q := 3) rfl _ _ (w.heap.size + 1) _ _ _ _ rfl y1 Tryd.underlying26 rfl sz26) rfl y2

end Go.Proofs.YtjngknnkffbnmaaDoor
