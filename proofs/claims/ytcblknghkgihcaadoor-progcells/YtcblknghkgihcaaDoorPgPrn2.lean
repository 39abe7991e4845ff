/-
  Layer 13: a line of the landed Print, walked as part of printFunction.
-/
import Derived.Test.YtcblknghkgihcaaDoorPgPrn1
namespace Go.Proofs.YtcblknghkgihcaaDoor
set_option maxRecDepth 100000
open Go.RowKit Txt Pg

theorem cat2 (a b : List UInt8) : bs a ++ bs b = bs (a ++ b) := bs_append a b

set_option maxHeartbeats 8000000 in
theorem printFunction_any : ∀ (t : Pr) (x : Six) (W w : World) (B b : Nat) (g : Option Nat) (l : List UInt8), PR W t x → Ot W → TB W → Below W.heap.size W w → W.heap.size ≤ B → B ≤ b → Bd w B b g l → l.length + (prnT t).length ≤ 140737488355328 →
    Calls Tryd.prog 41 #[.pointer (some ⟨b, 0, none⟩), x.v] w fun e w' => e = .returned (.tuple #[]) ∧ ∃ g', Wt B b g w g' w' (l ++ prnT t) := by
  refine Pr.ind' fun pa rg us cs ks ps ih => ?_
  intro x W w B b g l h hT hTB hW hWB hB hbd hlen
  rw [PR_mk] at h
  obtain ⟨pa', rg', vu, vc, vk, vp⟩ := x
  simp only at h
  obtain ⟨rfl, rfl, hpa, hrg, hu, hc, hk, f, hp, hch⟩ := h
  obtain ⟨ac, cc, rfl, hcl, hcc, lc⟩ := hc.1.val
  obtain ⟨ap, cp, rfl, hpl, hpc, lp⟩ := hp.val
  have h00 := hT.1
  unfold Six.v
  simp only
  rw [prnT_mk] at hlen ⊢
  have HI : Hid _ := ih
  obtain ⟨np, hnp⟩ : ∃ n, n = ps.length := ⟨_, rfl⟩
  obtain ⟨nc, hnc⟩ : ∃ n, n = cs.length := ⟨_, rfl⟩
  have HNP : Hid (np = ps.length) := hnp
  have HNC : Hid (nc = cs.length) := hnc
  have HSP : Hid (SL W (.slice ap np cp) ps.length 6 (fun i j u => u = (f i).at j)) := by rw [hnp]; exact hp
  have HSC : Hid (SI W (.slice ac nc cc) cs) := by rw [hnc]; exact hc
  have HCH : Hid (∀ i (h : i < ps.length), PR W ps[i] (f i)) := hch
  have HT : Hid (Ot W) := hT
  have HTB : Hid (TB W) := hTB
  have HLEN : Hid (l.length + (linesF 0 cs).length + (prnL ps).2.length ≤ 140737488355328) := by rw [List.length_append] at hlen; show _ ≤ _; omega
  rw [← hnc, ← hnp]
  rw [← hnp] at hpl lp
  rw [← hnc] at hcl lc
  unfold far at lp lc
  clear hu hc hk hp hch ih hT hTB hnp hnc hlen hpa hrg
  obtain ⟨w0, hw0⟩ : ∃ w0, w0 = w.alloc (.cells #[.int .i64 pa', .int .i64 rg', vu, .slice ac nc cc, vk, .slice ap np cp] 27) := ⟨_, rfl⟩
  have hs0 : w0.heap.size = w.heap.size + 1 := by rw [hw0]; simp
  have hbe0 : Below w.heap.size w w0 := by rw [hw0]; exact (Below.refl _ _).alloc (Nat.le_refl _) _
  have HA3 : Hid (w0.cell? ⟨w.heap.size, 3, none⟩ = some (.slice ac nc cc)) := by show _ = _; rw [hw0, World.cell?_alloc_new]; rfl
  have HA5 : Hid (w0.cell? ⟨w.heap.size, 5, none⟩ = some (.slice ap np cp)) := by show _ = _; rw [hw0, World.cell?_alloc_new]; rfl
  have hblt := hbd.lt
  have HBD0 : Hid (Bd w0 B b g l) := hbd.kept hbe0
  have HG0 : Hid (∀ i, g = some i → i < w.heap.size) := fun i hi => (hbd.at.2 i hi).2
  have hBw : B ≤ w.heap.size := by omega
  have HW0 : Hid (Below W.heap.size W w0) := hW.trans (hbe0.mono hW.size)
  have HBe0 : Hid (Below w.heap.size w w0) := hbe0
  have hne : w.heap.size ≠ b := by omega
  have HWs : Hid (∀ (g' : Option Nat) (wr : World) (L : List UInt8), Wt B b g w0 g' wr L → Below W.heap.size W wr) := fun g' wr L hw => HW0.out.trans ((hw.base HBD0.out hB (by omega)).mono hWB)
  go_enter Tryd.func41, Tryd.ntmps41
  go_wp2_with fail
  rw [← hw0]
  clear hw0 hbd hW hbe0
  go_loopw [4, 5, 6, 7, 8, 9, 15, 42] (fun t4 t5 t6 t7 t8 t9 t15 t42 wr => ∃ (i : Nat) (g1 : Option Nat), i ≤ nc ∧ t15 = .int .i64 i ∧ Hid (Wt B b g w0 g1 wr (l ++ linesF 0 (cs.take i)))) (fun _ _ _ _ _ _ t15 _ _ => nc - (intOf t15).toNat)
  case atStart => exact ⟨0, g, Nat.zero_le _, rfl, by show Wt _ _ _ _ _ _ _; rw [show linesF 0 (cs.take 0) = [] from rfl, List.append_nil]; exact Wt.start HBD0.out⟩
  case round =>
    obtain ⟨i, g1, hi, rfl, HW⟩ := hrel
    have HBW : Hid (Below W.heap.size W wr) := HWs.out _ _ _ HW.out
    have hszr := HW.out.kg.size
    by_cases c : i < nc
    · have i1 : i < cs.length := by rw [← HNC.out]; exact c
      obtain ⟨-, gc, oc, rfl, op, xa, xb, xc, hl, ⟨k0, k1, k2, k3⟩, e0, e1, e2, e3⟩ := (HSC.out.kept HBW.out (Nat.le_refl _)).get i1
      have HL1 : Hid (linesF 0 (cs.take (i + 1)) = linesF 0 (cs.take i) ++ lineT i ⟨op, xa, xb, xc⟩) := by show _ = _; rw [linesF_take cs i i1, hl]
      have HLn : Hid (l.length + (linesF 0 (cs.take i)).length + (lineT i ⟨op, xa, xb, xc⟩).length ≤ 140737488355328) := by
        have h1 := linesF_len cs (i + 1)
        rw [HL1.out, List.length_append] at h1
        have h2 := HLEN.out
        show _ ≤ _
        omega
      clear hl
      obtain ⟨bi, hbi⟩ : ∃ bi, bi = wr.heap.size := ⟨_, rfl⟩
      obtain ⟨wa, hwa⟩ : ∃ wa, wa = wr.alloc (.cells #[.int .i64 op, .int .i64 xa, .int .i64 xb, .int .i64 xc] 58) := ⟨_, rfl⟩
      have hba : Below wr.heap.size wr wa := by rw [hwa]; exact (Below.refl _ _).alloc (Nat.le_refl _) _
      have hsa : wa.heap.size = bi + 1 := by rw [hwa, hbi]; simp
      have HAi : Hid (∀ j, wa.cell? ⟨bi, j, none⟩ = (#[.int .i64 op, .int .i64 xa, .int .i64 xb, .int .i64 xc] : Array Value)[j]?) := by
        intro j
        rw [hwa, hbi, World.cell?_alloc_new]
      have HWa : Hid (Wt B b g w0 g1 wa (l ++ linesF 0 (cs.take i))) := HW.out.below hba
      have HBa : Hid (Below W.heap.size W wa) := HWs.out _ _ _ HWa.out
      have HG1 : Hid (∀ k, g1 = some k → k < bi) := fun k hk => by rw [hbi]; exact (HW.out.bd.at.2 k hk).2
      have hbib : bi ≠ b := by have := HW.out.bd.lt; omega
      have hi64 : i64 (i : Int) := by unfold i64; omega
      have HItoa : Hid (∀ w', Below wa.heap.size wa w' → Calls Tryd.prog 67 #[.int .i64 i] w' fun e w'' => e = .returned (.string (bs (Lib.itoa i))) ∧ Below w'.heap.size w' w'') := fun w' hb' => itoaZ_any i w' hi64 (HTB.out.below (HBa.out.trans (hb'.mono HBa.out.size)))
      have HName : Hid (∀ w', Below wa.heap.size wa w' → Calls Tryd.prog 68 #[.int .i64 op] w' fun e w'' => e = .returned (.string (bs (rowOf op).1)) ∧ Below w'.heap.size w' w'') := fun w' hb' => pname_any op w' (HT.out.below (HBa.out.trans (hb'.mono HBa.out.size)) h00)
      have hz1 := itoa_len i hi64
      have hz2 := name_len op
      have HPut1 : Hid (∀ w', Below wa.heap.size wa w' → Calls Tryd.prog 66 #[.pointer (some ⟨b, 0, none⟩), .string (bs (Lib.itoa i) ++ (⟨#[32]⟩ : ByteArray) ++ bs (rowOf op).1)] w' fun e w'' => e = .returned (.tuple #[.int .i64 (headT i op).length, .nilIface]) ∧ ∃ g', Wt B b g w0 g' w'' (l ++ linesF 0 (cs.take i) ++ headT i op) ∧ ∀ j v, (#[.int .i64 op, .int .i64 xa, .int .i64 xb, .int .i64 xc] : Array Value)[j]? = some v → w''.cell? ⟨bi, j, none⟩ = some v) := by
        intro w' hb'
        have hw' := HWa.out.below hb'
        refine (put_any B b g1 _ (headT i op) _ w' (by rw [show (⟨#[32]⟩ : ByteArray) = bs [32] from rfl, cat2, cat2]; rfl) hw'.bd (by have := hw'.kg.size; omega) (by rw [List.length_append]; have := HLn.out; unfold lineT at this; simp only [List.length_append] at this; omega)).mono ?_
        rintro e w'' ⟨he, g', q1, q2, q3⟩
        refine ⟨he, g', hw'.more q1 q2 q3, fun j v hv => ?_⟩
        exact q3.cell (by have := hb'.size; omega) hbib (fun e => by have := HG1.out bi e.symm; omega) (cell_kept hb' (Nat.le_refl _) ((HAi.out j).trans hv))
      have hs1 := bs_size (Lib.itoa i)
      have hs2 := bs_size (rowOf op).1
      have HOrd : Hid (∀ w', Below W.heap.size W w' → Calls Tryd.prog 69 #[.int .i64 op] w' fun e w'' => e = .returned (.tuple #[rowV (rowOf op), .bool (isOp op)]) ∧ Below w'.heap.size w' w'') := fun w' hb' => orderOf_any op w' (HT.out.below hb' h00)
      unfold rowV at HOrd
      obtain ⟨P, hP⟩ : ∃ P : Nat → List UInt8, P = (fun k => if k = 0 then [] else if k = 1 then [] ++ opT (rowOf op).2.2.1 xa else if k = 2 then ([] ++ opT (rowOf op).2.2.1 xa) ++ opT (rowOf op).2.2.2.1 xb else (([] ++ opT (rowOf op).2.2.1 xa) ++ opT (rowOf op).2.2.2.1 xb) ++ opT (rowOf op).2.2.2.2 xc) := ⟨_, rfl⟩
      have HP := hide_p hP
      clear hP
      have HPl : Hid (∀ k, k ≤ 3 → l.length + (linesF 0 (cs.take i)).length + (headT i op).length + (P k).length ≤ 140737488355328) := by
        intro k hk
        have := HLn.out
        unfold lineT at this
        simp only [List.length_append] at this
        rw [HP.out]
        have h4 : k = 0 ∨ k = 1 ∨ k = 2 ∨ k = 3 := by omega
        rcases h4 with rfl | rfl | rfl | rfl <;> simp <;> omega
      have HLine : Hid (lineT i ⟨op, xa, xb, xc⟩ = headT i op ++ P 3 ++ [10]) := by
        show _ = _
        rw [HP.out]
        unfold lineT
        simp
      have HP1 : Hid (P 0 = [] ∧ P 1 = P 0 ++ opT (rowOf op).2.2.1 xa ∧ P 2 = P 1 ++ opT (rowOf op).2.2.2.1 xb ∧ P 3 = P 2 ++ opT (rowOf op).2.2.2.2 xc) := by
        rw [HP.out]
        exact ⟨rfl, rfl, rfl, rfl⟩
      clear HP
      generalize bs (Lib.itoa i) = S1 at *
      generalize isOp op = is at *
      generalize rowOf op = row at *
      obtain ⟨ra, rb, o0, o1, o2⟩ := row
      simp only at HName HPut1 hs2 HOrd hz2 HP1
      generalize bs ra = S2 at *
      generalize hra : ra.length = lra at *
      generalize hia : (Lib.itoa i).length = lia at *
      clear hra hia hba hi64 HLn
      go_upto_region 4 with fail
      rw [← hbi, ← hwa]
      clear hwa hbi e0 e1 e2 e3
      have hq0 : wa.cell? ⟨bi, 0, none⟩ = some (.int .i64 op) := HAi.out 0
      have hcc1 : ¬ 9223372036854775807 < lia + 1 := by omega
      have hcc2 : ¬ 9223372036854775807 < lia + 1 + lra := by omega
      go_region_held3 (fun w' => w'.cell? ⟨bi, 0, none⟩ = some (.int .i64 op))
        (first
          | go_keep
          | exact cell_kept hb1 (Nat.le_refl _) (by assumption)
          | exact cell_kept hb2 (Nat.le_refl _) (by assumption)
          | exact hcells 0 _ rfl)
        (first
          | (go_at_call 67; refine (HItoa.out _ (Below.refl _ _).drew).mono ?_; rintro e w1 ⟨rfl, hb1⟩; have HB1 : Hid (Below wa.heap.size wa w1) := (Below.refl _ _).drew.trans (hb1.mono (by simp)))
          | (go_at_call 68; refine (HName.out _ HB1.out).mono ?_; rintro e w2 ⟨rfl, hb2⟩; have HB2 : Hid (Below wa.heap.size wa w2) := HB1.out.trans (hb2.mono HB1.out.size))
          | (go_at_call 66; refine (HPut1.out _ HB2.out).mono ?_; rintro e w3 ⟨rfl, g4, hw4, hcells⟩))
      have HW4 := hide_p hw4
      have HC4 := hide_p hcells
      have u0 := hcells 0 _ rfl
      have hord := HOrd.out w3 (HWs.out _ _ _ hw4)
      have HG4 : Hid (∀ k, g4 = some k → k < w3.heap.size) := fun k hk => (hw4.bd.at.2 k hk).2
      have hb3 := hw4.bd.lt
      have hbi3 : bi < w3.heap.size := World.block_lt_of_cell? w3 _ u0
      clear hw4 hcells hb1 hb2 HB1 HB2 HPut1 HName HItoa HOrd
      go_wp2_with fail
      refine hord.mono ?_
      rintro e w5 ⟨rfl, hb5⟩
      have HB5 := hide_p hb5
      have u1 : w5.cell? ⟨bi, 1, none⟩ = some (.int .i64 xa) := cell_kept hb5 (Nat.le_refl _) (HC4.out 1 _ rfl)
      have u2 : w5.cell? ⟨bi, 2, none⟩ = some (.int .i64 xb) := cell_kept hb5 (Nat.le_refl _) (HC4.out 2 _ rfl)
      have u3 : w5.cell? ⟨bi, 3, none⟩ = some (.int .i64 xc) := cell_kept hb5 (Nat.le_refl _) (HC4.out 3 _ rfl)
      have hs5 := hb5.size
      obtain ⟨br, hbr⟩ : ∃ br, br = w5.heap.size := ⟨_, rfl⟩
      obtain ⟨w6, hw6⟩ : ∃ w6, w6 = w5.alloc (.cells #[.string S2, .int .i64 rb, .int .i64 o0, .int .i64 o1, .int .i64 o2] 119) := ⟨_, rfl⟩
      have hb6 : Below w3.heap.size w3 w6 := by rw [hw6]; exact hb5.alloc hs5 _
      have hs6 : w6.heap.size = br + 1 := by rw [hw6, hbr]; simp
      have C0 : Hid (∀ j, w6.cell? ⟨br, j, none⟩ = (#[.string S2, .int .i64 rb, .int .i64 o0, .int .i64 o1, .int .i64 o2] : Array Value)[j]?) := by
        intro j
        rw [hw6, hbr, World.cell?_alloc_new]
      have HW6 : Hid (Wt B b g w0 g4 w6 (l ++ linesF 0 (cs.take i) ++ headT i op)) := HW4.out.below hb6
      have hbr1 : br < w6.heap.size := by omega
      have hbr2 : br ≠ b := by omega
      have HBRG : Hid (∀ k, g4 = some k → k ≠ br) := fun k hk => by have := HG4.out k hk; omega
      have hbiw : bi < w5.heap.size := by omega
      clear hord u0 hb5
      go_wp2_with fail
      rw [← hbr, ← hw6]
      clear hbr hw6 u1 u2 u3 hb6 hbiw hs5 hbi3
      have hix := fun w => (idx3 (.int .i64 xa) (.int .i64 xb) (.int .i64 xc) w).1
      have hiy := fun w => (idx3 (.int .i64 xa) (.int .i64 xb) (.int .i64 xc) w).2.1
      have hiz := fun w => (idx3 (.int .i64 xa) (.int .i64 xb) (.int .i64 xc) w).2.2
      go_loopw [8, 9, 42] (fun t8 t9 t42 w8 => ∃ (k : Int) (m : Nat) (g8 : Option Nat), ((k = 0 ∧ m = 0) ∨ (k = 1 ∧ m = 1) ∨ (k = 2 ∧ m = 2) ∨ (k = 3 ∧ m = 3)) ∧ t42 = .int .i64 k ∧ Hid (Wt B b g w0 g8 w8 (l ++ linesF 0 (cs.take i) ++ headT i op ++ P m)) ∧ Hid (Wt B b g4 w6 g8 w8 (l ++ linesF 0 (cs.take i) ++ headT i op ++ P m))) (fun _ _ t42 _ => 3 - (intOf t42).toNat)
      case atStart =>
        refine ⟨0, 0, g4, Or.inl ⟨rfl, rfl⟩, rfl, ?_, ?_⟩
        · show Wt _ _ _ _ _ _ _; rw [HP1.out.1, List.append_nil]; exact HW6.out
        · show Wt _ _ _ _ _ _ _; rw [HP1.out.1, List.append_nil]; exact Wt.start HW6.out.bd
      case round =>
        obtain ⟨k, m, g8, hk, rfl, HW8, HR8⟩ := hrel
        rcases hk with ⟨rfl, rfl⟩ | ⟨rfl, rfl⟩ | ⟨rfl, rfl⟩ | ⟨rfl, rfl⟩
        case inl =>
          have ho : wr.cell? ⟨br, 2, none⟩ = some (.int .i64 o0) := HR8.out.cell hbr1 hbr2 HBRG.out (C0.out 2)
          by_cases co : o0 = 0
          · have hP : P 1 = P 0 := by rw [HP1.out.2.1, show opT o0 xa = [] from if_pos co, List.append_nil]
            have HW9 : Hid (Wt B b g w0 g8 wr (l ++ linesF 0 (cs.take i) ++ headT i op ++ P 1)) := by rw [hP]; exact HW8.out
            have HR9 : Hid (Wt B b g4 w6 g8 wr (l ++ linesF 0 (cs.take i) ++ headT i op ++ P 1)) := by rw [hP]; exact HR8.out
            have co2 : (o0 != 0) = false := by simp [co]
            clear hP
            go_wp2
            go_roundw
            case rel => exact ⟨1, 1, g8, by omega, rfl, HW9, HR9⟩
            case measure => simp [intOf]
          · have hP : P 1 = P 0 ++ (32 :: Lib.itoa xa) := by rw [HP1.out.2.1, show opT o0 xa = 32 :: Lib.itoa xa from if_neg co]
            have co2 : (o0 != 0) = true := by simp [co]
            have hitoa := itoaZ_any xa wr k1 (HTB.out.below (HWs.out _ _ _ HW8.out))
            have hz := itoa_len xa k1
            have hsz := bs_size (Lib.itoa xa)
            have hPL : l.length + (linesF 0 (cs.take i)).length + (headT i op).length + (P 0).length + (Lib.itoa xa).length + 1 ≤ 140737488355328 := by
              have h2 : (P 1).length = (P 0).length + (Lib.itoa xa).length + 1 := by rw [hP, List.length_append, List.length_cons]; omega
              have h3 := HPl.out 1 (by omega)
              omega
            have HPut : Hid (∀ w', Below wr.heap.size wr w' → Calls Tryd.prog 66 #[.pointer (some ⟨b, 0, none⟩), .string ((⟨#[32]⟩ : ByteArray) ++ bs (Lib.itoa xa))] w' fun e w'' => e = .returned (.tuple #[.int .i64 (32 :: Lib.itoa xa).length, .nilIface]) ∧ ∃ g', Wt B b g w0 g' w'' (l ++ linesF 0 (cs.take i) ++ headT i op ++ P 1) ∧ Wt B b g4 w6 g' w'' (l ++ linesF 0 (cs.take i) ++ headT i op ++ P 1)) := by
              intro w' hb'
              have hw8 := HW8.out.below hb'
              have hr8 := HR8.out.below hb'
              refine (put_any B b g8 _ (32 :: Lib.itoa xa) _ w' (by rw [show (⟨#[32]⟩ : ByteArray) = bs [32] from rfl, cat2]; rfl) hw8.bd (by have := hw8.kg.size; omega) (by simp only [List.length_append, List.length_cons]; omega)).mono ?_
              rintro e w'' ⟨he, g', q1, q2, q3⟩
              rw [List.append_assoc, ← hP] at q1
              exact ⟨he, g', hw8.more q1 q2 q3, hr8.more q1 q2 q3⟩
            have hcc3 : ¬ 9223372036854775807 < 1 + (Lib.itoa xa).length := by omega
            generalize bs (Lib.itoa xa) = S3 at *
            generalize (32 :: Lib.itoa xa).length = ln3 at *
            generalize (Lib.itoa xa).length = lx3 at *
            clear hP hPL
            go_wp2_with fail
            refine hitoa.mono ?_
            rintro e w9 ⟨rfl, hb9⟩
            have hput := HPut.out w9 hb9
            clear hitoa hb9 ho HPut
            go_wp2_with fail
            refine hput.mono ?_
            rintro e w10 ⟨rfl, g10, hw10, hr10⟩
            have HW10 := hide_p hw10
            have HR10 := hide_p hr10
            clear hw10 hr10 hput
            go_wp2
            go_roundw
            case rel => exact ⟨1, 1, g10, by omega, rfl, HW10, HR10⟩
            case measure => simp [intOf]
        case inr.inl =>
          have ho : wr.cell? ⟨br, 3, none⟩ = some (.int .i64 o1) := HR8.out.cell hbr1 hbr2 HBRG.out (C0.out 3)
          by_cases co : o1 = 0
          · have hP : P 2 = P 1 := by rw [HP1.out.2.2.1, show opT o1 xb = [] from if_pos co, List.append_nil]
            have HW9 : Hid (Wt B b g w0 g8 wr (l ++ linesF 0 (cs.take i) ++ headT i op ++ P 2)) := by rw [hP]; exact HW8.out
            have HR9 : Hid (Wt B b g4 w6 g8 wr (l ++ linesF 0 (cs.take i) ++ headT i op ++ P 2)) := by rw [hP]; exact HR8.out
            have co2 : (o1 != 0) = false := by simp [co]
            clear hP
            go_wp2
            go_roundw
            case rel => exact ⟨2, 2, g8, by omega, rfl, HW9, HR9⟩
            case measure => simp [intOf]
          · have hP : P 2 = P 1 ++ (32 :: Lib.itoa xb) := by rw [HP1.out.2.2.1, show opT o1 xb = 32 :: Lib.itoa xb from if_neg co]
            have co2 : (o1 != 0) = true := by simp [co]
            have hitoa := itoaZ_any xb wr k2 (HTB.out.below (HWs.out _ _ _ HW8.out))
            have hz := itoa_len xb k2
            have hsz := bs_size (Lib.itoa xb)
            have hPL : l.length + (linesF 0 (cs.take i)).length + (headT i op).length + (P 1).length + (Lib.itoa xb).length + 1 ≤ 140737488355328 := by
              have h2 : (P 2).length = (P 1).length + (Lib.itoa xb).length + 1 := by rw [hP, List.length_append, List.length_cons]; omega
              have h3 := HPl.out 2 (by omega)
              omega
            have HPut : Hid (∀ w', Below wr.heap.size wr w' → Calls Tryd.prog 66 #[.pointer (some ⟨b, 0, none⟩), .string ((⟨#[32]⟩ : ByteArray) ++ bs (Lib.itoa xb))] w' fun e w'' => e = .returned (.tuple #[.int .i64 (32 :: Lib.itoa xb).length, .nilIface]) ∧ ∃ g', Wt B b g w0 g' w'' (l ++ linesF 0 (cs.take i) ++ headT i op ++ P 2) ∧ Wt B b g4 w6 g' w'' (l ++ linesF 0 (cs.take i) ++ headT i op ++ P 2)) := by
              intro w' hb'
              have hw8 := HW8.out.below hb'
              have hr8 := HR8.out.below hb'
              refine (put_any B b g8 _ (32 :: Lib.itoa xb) _ w' (by rw [show (⟨#[32]⟩ : ByteArray) = bs [32] from rfl, cat2]; rfl) hw8.bd (by have := hw8.kg.size; omega) (by simp only [List.length_append, List.length_cons]; omega)).mono ?_
              rintro e w'' ⟨he, g', q1, q2, q3⟩
              rw [List.append_assoc, ← hP] at q1
              exact ⟨he, g', hw8.more q1 q2 q3, hr8.more q1 q2 q3⟩
            have hcc3 : ¬ 9223372036854775807 < 1 + (Lib.itoa xb).length := by omega
            generalize bs (Lib.itoa xb) = S3 at *
            generalize (32 :: Lib.itoa xb).length = ln3 at *
            generalize (Lib.itoa xb).length = lx3 at *
            clear hP hPL
            go_wp2_with fail
            refine hitoa.mono ?_
            rintro e w9 ⟨rfl, hb9⟩
            have hput := HPut.out w9 hb9
            clear hitoa hb9 ho HPut
            go_wp2_with fail
            refine hput.mono ?_
            rintro e w10 ⟨rfl, g10, hw10, hr10⟩
            have HW10 := hide_p hw10
            have HR10 := hide_p hr10
            clear hw10 hr10 hput
            go_wp2
            go_roundw
            case rel => exact ⟨2, 2, g10, by omega, rfl, HW10, HR10⟩
            case measure => simp [intOf]
        case inr.inr.inl =>
          have ho : wr.cell? ⟨br, 4, none⟩ = some (.int .i64 o2) := HR8.out.cell hbr1 hbr2 HBRG.out (C0.out 4)
          by_cases co : o2 = 0
          · have hP : P 3 = P 2 := by rw [HP1.out.2.2.2, show opT o2 xc = [] from if_pos co, List.append_nil]
            have HW9 : Hid (Wt B b g w0 g8 wr (l ++ linesF 0 (cs.take i) ++ headT i op ++ P 3)) := by rw [hP]; exact HW8.out
            have HR9 : Hid (Wt B b g4 w6 g8 wr (l ++ linesF 0 (cs.take i) ++ headT i op ++ P 3)) := by rw [hP]; exact HR8.out
            have co2 : (o2 != 0) = false := by simp [co]
            clear hP
            go_wp2
            go_roundw
            case rel => exact ⟨3, 3, g8, by omega, rfl, HW9, HR9⟩
            case measure => simp [intOf]
          · have hP : P 3 = P 2 ++ (32 :: Lib.itoa xc) := by rw [HP1.out.2.2.2, show opT o2 xc = 32 :: Lib.itoa xc from if_neg co]
            have co2 : (o2 != 0) = true := by simp [co]
            have hitoa := itoaZ_any xc wr k3 (HTB.out.below (HWs.out _ _ _ HW8.out))
            have hz := itoa_len xc k3
            have hsz := bs_size (Lib.itoa xc)
            have hPL : l.length + (linesF 0 (cs.take i)).length + (headT i op).length + (P 2).length + (Lib.itoa xc).length + 1 ≤ 140737488355328 := by
              have h2 : (P 3).length = (P 2).length + (Lib.itoa xc).length + 1 := by rw [hP, List.length_append, List.length_cons]; omega
              have h3 := HPl.out 3 (by omega)
              omega
            have HPut : Hid (∀ w', Below wr.heap.size wr w' → Calls Tryd.prog 66 #[.pointer (some ⟨b, 0, none⟩), .string ((⟨#[32]⟩ : ByteArray) ++ bs (Lib.itoa xc))] w' fun e w'' => e = .returned (.tuple #[.int .i64 (32 :: Lib.itoa xc).length, .nilIface]) ∧ ∃ g', Wt B b g w0 g' w'' (l ++ linesF 0 (cs.take i) ++ headT i op ++ P 3) ∧ Wt B b g4 w6 g' w'' (l ++ linesF 0 (cs.take i) ++ headT i op ++ P 3)) := by
              intro w' hb'
              have hw8 := HW8.out.below hb'
              have hr8 := HR8.out.below hb'
              refine (put_any B b g8 _ (32 :: Lib.itoa xc) _ w' (by rw [show (⟨#[32]⟩ : ByteArray) = bs [32] from rfl, cat2]; rfl) hw8.bd (by have := hw8.kg.size; omega) (by simp only [List.length_append, List.length_cons]; omega)).mono ?_
              rintro e w'' ⟨he, g', q1, q2, q3⟩
              rw [List.append_assoc, ← hP] at q1
              exact ⟨he, g', hw8.more q1 q2 q3, hr8.more q1 q2 q3⟩
            have hcc3 : ¬ 9223372036854775807 < 1 + (Lib.itoa xc).length := by omega
            generalize bs (Lib.itoa xc) = S3 at *
            generalize (32 :: Lib.itoa xc).length = ln3 at *
            generalize (Lib.itoa xc).length = lx3 at *
            clear hP hPL
            go_wp2_with fail
            refine hitoa.mono ?_
            rintro e w9 ⟨rfl, hb9⟩
            have hput := HPut.out w9 hb9
            clear hitoa hb9 ho HPut
            go_wp2_with fail
            refine hput.mono ?_
            rintro e w10 ⟨rfl, g10, hw10, hr10⟩
            have HW10 := hide_p hw10
            have HR10 := hide_p hr10
            clear hw10 hr10 hput
            go_wp2
            go_roundw
            case rel => exact ⟨3, 3, g10, by omega, rfl, HW10, HR10⟩
            case measure => simp [intOf]
        case inr.inr.inr =>
          have HPut : Calls Tryd.prog 66 #[.pointer (some ⟨b, 0, none⟩), .string (⟨#[10]⟩ : ByteArray)] wr fun e w'' => e = .returned (.tuple #[.int .i64 ([10] : List UInt8).length, .nilIface]) ∧ ∃ g', Wt B b g w0 g' w'' (l ++ linesF 0 (cs.take (i + 1))) := by
            refine (put_any B b g8 _ [10] _ wr rfl HW8.out.bd (by have := HW8.out.kg.size; omega) ?_).mono ?_
            · have h1 := linesF_len cs (i + 1)
              rw [HL1.out, HLine.out] at h1
              simp only [List.length_append] at h1 ⊢
              have := HLEN.out
              omega
            · rintro e w'' ⟨he, g', q1, q2, q3⟩
              refine ⟨he, g', ?_⟩
              have := HW8.out.more q1 q2 q3
              rw [HL1.out, HLine.out]
              simpa [List.append_assoc] using this
          go_wp2_with fail
          refine HPut.mono ?_
          rintro e w11 ⟨rfl, g11, hw11⟩
          have HW11 := hide_p hw11
          clear hw11 HPut
          go_wp2
          go_roundw
          case rel => exact ⟨i + 1, g11, by omega, by go_num, HW11⟩
          case measure => simp [intOf]; omega
    · have e : i = nc := by omega
      subst e
      have HW1 : Hid (Wt B b g w0 g1 wr (l ++ linesF 0 cs)) := by
        have := HW.out
        rw [List.take_of_length_le (by rw [← HNC.out]; omega)] at this
        exact this
      have v5 : wr.cell? ⟨w.heap.size, 5, none⟩ = some (.slice ap np cp) := HW1.out.cell (by omega) hne (fun k hk => by have := HG0.out k hk; omega) HA5.out
      clear HW
      go_wp2_with fail
      go_loopw [10, 11, 63] (fun t10 t11 t63 wr => ∃ (i : Nat) (g1 : Option Nat), i ≤ np ∧ t63 = .int .i64 i ∧ Hid (Wt B b g w0 g1 wr (l ++ linesF 0 cs ++ (prnL (ps.take i)).2))) (fun _ _ t63 _ => np - (intOf t63).toNat)
      case atStart => exact ⟨0, g1, Nat.zero_le _, rfl, by show Wt _ _ _ _ _ _ _; rw [show (prnL (ps.take 0)).2 = [] from rfl, List.append_nil]; exact HW1.out⟩
      case round =>
        obtain ⟨j, g2, hj, rfl, HW2⟩ := hrel
        have HBW2 : Hid (Below W.heap.size W wr) := HWs.out _ _ _ HW2.out
        have hszr2 := HW2.out.kg.size
        by_cases c2 : j < np
        · have j1 : j < ps.length := by rw [← HNP.out]; exact c2
          obtain ⟨-, gp, op, rfl, e0, e1, e2, e3, e4, e5⟩ := SP.get (HSP.out.kept HBW2.out (Nat.le_refl _)) j1
          have HPT : Hid ((prnL (ps.take (j + 1))).2 = (prnL (ps.take j)).2 ++ (funT ++ Lib.itoa (j : Nat) ++ [10] ++ prnT ps[j])) := prnL_take ps j j1
          have HLn : Hid (l.length + (linesF 0 cs).length + (prnL (ps.take j)).2.length + (funT ++ Lib.itoa (j : Nat) ++ [10]).length + (prnT ps[j]).length ≤ 140737488355328) := by
            have h1 := prnL_len ps (j + 1)
            rw [HPT.out, List.length_append, List.length_append] at h1
            have h2 := HLEN.out
            show _ ≤ _
            omega
          have HPQ : Hid (PR W ps[j] (f j)) := HCH.out j j1
          have HIQ := HI.out ps[j] (List.getElem_mem j1) (f j)
          have hq : ∃ a1 n1 c1 a2 n2 c2 a3 n3 c3 a4 n4 c4, (f j).u = .slice a1 n1 c1 ∧ (f j).c = .slice a2 n2 c2 ∧ (f j).k = .slice a3 n3 c3 ∧ (f j).p = .slice a4 n4 c4 := by
            have hq := HCH.out j j1
            generalize ps[j] = q at hq
            obtain ⟨qpa, qrg, qus, qcs, qks, qps⟩ := q
            rw [PR_mk] at hq
            obtain ⟨-, -, -, -, hqu, hqc, hqk, f', hqp, -⟩ := hq
            obtain ⟨a1, c1, h1, -⟩ := hqu.1.val
            obtain ⟨a2, c2, h2, -⟩ := hqc.1.val
            obtain ⟨a3, c3, h3, -⟩ := hqk.1.val
            obtain ⟨a4, c4, h4, -⟩ := hqp.val
            exact ⟨_, _, _, _, _, _, _, _, _, _, _, _, h1, h2, h3, h4⟩
          generalize ps[j] = q at *
          generalize f j = y at *
          obtain ⟨ypa, yrg, yu, yc, yk, yp⟩ := y
          simp only at e0 e1 e2 e3 e4 e5 hq
          obtain ⟨a1, n1, c1, a2, n2, c2, a3, n3, c3, a4, n4, c4, rfl, rfl, rfl, rfl⟩ := hq
          simp only [Six.v] at HIQ
          have hj64 : i64 (j : Int) := by unfold i64; omega
          obtain ⟨bx, hbx⟩ : ∃ bx, bx = wr.heap.size := ⟨_, rfl⟩
          obtain ⟨wa, hwa⟩ : ∃ wa, wa = wr.alloc (.cells #[.int .i64 ypa, .int .i64 yrg, .slice a1 n1 c1, .slice a2 n2 c2, .slice a3 n3 c3, .slice a4 n4 c4] 27) := ⟨_, rfl⟩
          have hba : Below wr.heap.size wr wa := by rw [hwa]; exact (Below.refl _ _).alloc (Nat.le_refl _) _
          have hsa : wa.heap.size = bx + 1 := by rw [hwa, hbx]; simp
          have HX : Hid (∀ k, wa.cell? ⟨bx, k, none⟩ = (#[.int .i64 ypa, .int .i64 yrg, .slice a1 n1 c1, .slice a2 n2 c2, .slice a3 n3 c3, .slice a4 n4 c4] : Array Value)[k]?) := by
            intro k
            rw [hwa, hbx, World.cell?_alloc_new]
          have HWa : Hid (Wt B b g w0 g2 wa (l ++ linesF 0 cs ++ (prnL (ps.take j)).2)) := HW2.out.below hba
          have HBa : Hid (Below W.heap.size W wa) := HWs.out _ _ _ HWa.out
          have HG2 : Hid (∀ k, g2 = some k → k < bx) := fun k hk => by rw [hbx]; exact (HW2.out.bd.at.2 k hk).2
          have hbxb : bx ≠ b := by have := HW2.out.bd.lt; omega
          have hitoa := itoaZ_any j wa hj64 (HTB.out.below HBa.out)
          have hz := itoa_len j hj64
          have hsz := bs_size (Lib.itoa (j : Nat))
          have HPut : Hid (∀ w', Below wa.heap.size wa w' → Calls Tryd.prog 66 #[.pointer (some ⟨b, 0, none⟩), .string ((⟨#[102, 117, 110, 99, 116, 105, 111, 110, 32]⟩ : ByteArray) ++ bs (Lib.itoa (j : Nat)) ++ (⟨#[10]⟩ : ByteArray))] w' fun e w'' => e = .returned (.tuple #[.int .i64 (funT ++ Lib.itoa (j : Nat) ++ [10]).length, .nilIface]) ∧ ∃ g', Wt B b g w0 g' w'' (l ++ linesF 0 cs ++ (prnL (ps.take j)).2 ++ (funT ++ Lib.itoa (j : Nat) ++ [10])) ∧ ∀ k v, (#[.int .i64 ypa, .int .i64 yrg, .slice a1 n1 c1, .slice a2 n2 c2, .slice a3 n3 c3, .slice a4 n4 c4] : Array Value)[k]? = some v → w''.cell? ⟨bx, k, none⟩ = some v) := by
            intro w' hb'
            have hw' := HWa.out.below hb'
            refine (put_any B b g2 _ (funT ++ Lib.itoa (j : Nat) ++ [10]) _ w' (by rw [show (⟨#[102, 117, 110, 99, 116, 105, 111, 110, 32]⟩ : ByteArray) = bs funT from rfl, show (⟨#[10]⟩ : ByteArray) = bs [10] from rfl, cat2, cat2]) hw'.bd (by have := hw'.kg.size; omega) (by simp only [List.length_append]; have := HLn.out; simp only [List.length_append] at this; omega)).mono ?_
            rintro e w'' ⟨he, g', q1, q2, q3⟩
            refine ⟨he, g', hw'.more q1 q2 q3, fun k v hv => ?_⟩
            exact q3.cell (by have := hb'.size; omega) hbxb (fun e => by have := HG2.out bx e.symm; omega) (cell_kept hb' (Nat.le_refl _) ((HX.out k).trans hv))
          have hcc3 : ¬ 9223372036854775807 < 9 + (Lib.itoa (j : Nat)).length := by omega
          have hcc4 : ¬ 9223372036854775807 < 9 + (Lib.itoa (j : Nat)).length + 1 := by omega
          have HRec : Hid (∀ (w' : World) (g' : Option Nat), Wt B b g w0 g' w' (l ++ linesF 0 cs ++ (prnL (ps.take j)).2 ++ (funT ++ Lib.itoa (j : Nat) ++ [10])) → Calls Tryd.prog 41 #[.pointer (some ⟨b, 0, none⟩), .agg #[.int .i64 ypa, .int .i64 yrg, .slice a1 n1 c1, .slice a2 n2 c2, .slice a3 n3 c3, .slice a4 n4 c4]] w' fun e w'' => e = .returned (.tuple #[]) ∧ ∃ g'', Wt B b g w0 g'' w'' (l ++ linesF 0 cs ++ (prnL (ps.take (j + 1))).2)) := by
            intro w' g' hw'
            refine (HIQ W w' B b g' _ HPQ.out HT.out HTB.out (HWs.out _ _ _ hw') hWB hB hw'.bd (by simp only [List.length_append]; have := HLn.out; simp only [List.length_append] at this; omega)).mono ?_
            rintro e w'' ⟨he, g'', q⟩
            refine ⟨he, g'', ?_⟩
            have := hw'.more q.bd q.mv q.kg
            rw [HPT.out]
            simpa [List.append_assoc] using this
          generalize hS3 : bs (Lib.itoa (j : Nat)) = S3 at *
          generalize hln3 : (funT ++ Lib.itoa (j : Nat) ++ [10]).length = ln3 at *
          generalize hlx3 : (Lib.itoa (j : Nat)).length = lx3 at *
          clear hS3 hln3 hlx3 HIQ HLn hba hj64
          go_upto_region 17 with fail
          rw [← hbx, ← hwa]
          clear hwa hbx e0 e1 e2 e3 e4 e5
          go_wp2_with fail
          refine hitoa.mono ?_
          rintro e w9 ⟨rfl, hb9⟩
          have hput := HPut.out w9 hb9
          clear hitoa hb9 HPut
          go_wp2_with fail
          refine hput.mono ?_
          rintro e w10 ⟨rfl, g10, hw10, hcells⟩
          have z0 := hcells 0 _ rfl
          have z1 := hcells 1 _ rfl
          have z2 := hcells 2 _ rfl
          have z3 := hcells 3 _ rfl
          have z4 := hcells 4 _ rfl
          have z5 := hcells 5 _ rfl
          have hrec := HRec.out w10 g10 hw10
          clear hw10 hput hcells HRec
          go_wp2_with fail
          refine hrec.mono ?_
          rintro e w11 ⟨rfl, g11, hw11⟩
          have HW11 := hide_p hw11
          clear hw11 hrec z0 z1 z2 z3 z4 z5
          go_wp2
          go_roundw
          case rel => exact ⟨j + 1, g11, by omega, by go_num, HW11⟩
          case measure => simp [intOf]; omega
        · have e : j = np := by omega
          subst e
          have HWE : Hid (∃ g', Wt B b g w g' wr (l ++ (linesF 0 cs ++ (prnL ps).2))) := by
            have := HW2.out
            rw [List.take_of_length_le (by rw [← HNP.out]; omega)] at this
            refine ⟨g2, ?_, ?_, ?_⟩
            · rw [← List.append_assoc]; exact this.bd
            · rcases this.mv with h | h
              · exact Or.inl h
              · exact Or.inr fun k hk => by have := h k hk; omega
            · exact (Kg.of_below HBe0.out).trans this.kg (Or.inl rfl)
          clear HW2
          go_wp2
          go_end0
          exact ⟨rfl, HWE.out⟩

end Go.Proofs.YtcblknghkgihcaaDoor
