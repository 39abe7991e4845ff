/-
  Layer 13: the reference's Uses and Flat, walked.
-/
import Derived.Test.YtnigmiokadpajaaDoorPgOwn
import Derived.Test.YtnigmiokadpajaaDoorTxtMath
namespace Go.Proofs.YtnigmiokadpajaaDoor
set_option maxRecDepth 100000
open Go.RowKit Txt Pg

/-- The letters of each order's operands. -/
def usesL : List (List UInt8) := [[82, 75], [82, 82], [82, 82], [82], [82, 82], [82, 82], [82, 82], [82, 85], [85, 82], [82, 75], [75, 82], [82, 82, 82], [82, 82, 82], [82], [82, 82], [82, 82], [82, 82], [82, 82, 82], [82, 82, 82], [82, 82, 82], [82, 82, 82], [82, 82, 82], [82, 82, 82], [82, 82, 82], [82, 82, 82], [82, 82, 82], [82, 82, 82], [82, 82, 82], [82, 82, 82], [79], [82, 79], [82, 79], [82, 78], [82], [], [82, 80], [82, 79], [82, 79]]
def usesT (op : Int) : List UInt8 := usesL.getD op.toNat []
set_option maxHeartbeats 8000000 in
theorem uses_any (op : Int) (w : World) (h : isOp op = true) : Calls Tryd.prog 31 #[.int .i64 op] w fun e w' => e = .returned (.string (bs (usesT op))) ∧ w' = w := by
  have hc : op = 0 ∨ op = 1 ∨ op = 2 ∨ op = 3 ∨ op = 4 ∨ op = 5 ∨ op = 6 ∨ op = 7 ∨ op = 8 ∨ op = 9 ∨ op = 10 ∨ op = 11 ∨ op = 12 ∨ op = 13 ∨ op = 14 ∨ op = 15 ∨ op = 16 ∨ op = 17 ∨ op = 18 ∨ op = 19 ∨ op = 20 ∨ op = 21 ∨ op = 22 ∨ op = 23 ∨ op = 24 ∨ op = 25 ∨ op = 26 ∨ op = 27 ∨ op = 28 ∨ op = 29 ∨ op = 30 ∨ op = 31 ∨ op = 32 ∨ op = 33 ∨ op = 34 ∨ op = 35 ∨ op = 36 ∨ op = 37 := by
    unfold isOp at h
    simp at h
    omega
  clear h
  rcases hc with rfl | rfl | rfl | rfl | rfl | rfl | rfl | rfl | rfl | rfl | rfl | rfl | rfl | rfl | rfl | rfl | rfl | rfl | rfl | rfl | rfl | rfl | rfl | rfl | rfl | rfl | rfl | rfl | rfl | rfl | rfl | rfl | rfl | rfl | rfl | rfl | rfl | rfl
  all_goals
    go_enter Tryd.func31, Tryd.ntmps31
    go_wp2
    go_ret
    exact ⟨rfl, rfl⟩

namespace Pg
/-- A function and all within it, in order. -/
def flatT : Pr → List Pr
  | .mk pa rg us cs ks ps => ps.foldl (fun r q => r ++ flatT q) [.mk pa rg us cs ks ps]
def flatL (l : List Pr) (ps : List Pr) : List Pr := ps.foldl (fun r q => r ++ flatT q) l
theorem flatT_mk (pa rg : Int) (us : List Upp) (cs : List Ins) (ks : List Vl) (ps : List Pr) : flatT (.mk pa rg us cs ks ps) = flatL [.mk pa rg us cs ks ps] ps := by rw [flatT]; rfl
theorem flatL_take (l ps : List Pr) (i : Nat) (h : i < ps.length) : flatL l (ps.take (i + 1)) = flatL l (ps.take i) ++ flatT ps[i] := by
  unfold flatL
  rw [List.take_succ_eq_append_getElem h, List.foldl_append]
  rfl
theorem flatL_len : ∀ (ps : List Pr), (∀ q ∈ ps, (flatT q).length ≤ q.cnt) → ∀ l, (flatL l ps).length ≤ l.length + pcnts ps
  | [], _, l => by simp [flatL, pcnts_nil]
  | q :: ps, h, l => by
    have h1 := flatL_len ps (fun r hr => h r (List.mem_cons_of_mem _ hr)) (l ++ flatT q)
    have h2 := h q List.mem_cons_self
    rw [List.length_append] at h1
    rw [pcnts_cons]
    show (flatL (l ++ flatT q) ps).length ≤ _
    omega
theorem flatT_len : ∀ t : Pr, (flatT t).length ≤ t.cnt := by
  refine Pr.ind' fun pa rg us cs ks ps ih => ?_
  rw [flatT_mk, Pr.cnt_mk]
  have := flatL_len ps ih [.mk pa rg us cs ks ps]
  simp only [List.length_singleton] at this
  omega
theorem cellsF_append {n m z : Nat} (hz : 0 < z) (c c' : Nat → Nat → Value) : cellsF (n + m) z (fun i j => if i < n then c i j else c' (i - n) j) = cellsF n z c ++ cellsF m z c' := by
  apply List.ext_getElem?
  intro k
  by_cases h : k < n * z
  · rw [List.getElem?_append_left (by rw [cellsF_length]; exact h), cellsF_get h, cellsF_get (Nat.lt_of_lt_of_le h (Nat.mul_le_mul_right _ (Nat.le_add_right n m)))]
    have : k / z < n := Nat.div_lt_of_lt_mul (by rw [Nat.mul_comm]; exact h)
    simp [this]
  · by_cases h2 : k < (n + m) * z
    · have h3 : k - n * z < m * z := by rw [Nat.add_mul] at h2; omega
      rw [List.getElem?_append_right (by rw [cellsF_length]; omega), cellsF_length, cellsF_get h2, cellsF_get h3]
      obtain ⟨r, rfl⟩ : ∃ r, k = n * z + r := ⟨k - n * z, by omega⟩
      have e1 : (n * z + r) / z = n + r / z := by rw [Nat.mul_comm, Nat.mul_add_div hz]
      have e2 : (n * z + r) % z = r % z := by rw [Nat.mul_comm, Nat.mul_add_mod]
      have e3 : n * z + r - n * z = r := by omega
      rw [e1, e2, e3, if_neg (Nat.not_lt.2 (Nat.le_add_right _ _)), Nat.add_sub_cancel_left]
    · rw [List.getElem?_eq_none (by rw [cellsF_length]; omega), List.getElem?_eq_none (by rw [List.length_append, cellsF_length, cellsF_length, ← Nat.add_mul]; omega)]
end Pg

/-- A row of functions that lie elsewhere. -/
structure FW (e : TypeId) (W w : World) (B : Nat) (v : Value) (ts : List Pr) (y : Nat → Six) : Prop where
  own : w.ownsRow B e 6 v ts.length (cellsF ts.length 6 (sixC y))
  kid : ∀ i (h : i < ts.length), PR W ts[i] (y i)
theorem pr_one {w : World} {t : Pr} {x : Six} (h : PR w t x) (j : Nat) : (x.at j).oneCell' = true := sixC_one (y := fun _ => x) (i := 0) (PR.prs _ _ h) j
theorem FW.src {e : TypeId} {W w : World} {B : Nat} {v : Value} {ts : List Pr} {y : Nat → Six} (h : FW e W w B v ts y) : Src w 6 v ts.length (cellsF ts.length 6 (sixC y)) := by
  refine Src.of_owns h.own fun u hu => ?_
  obtain ⟨i, j, hi, hj, rfl⟩ := cellsF_mem (by decide) hu
  exact pr_one (h.kid i hi) j
theorem FW.more {e : TypeId} {W w w' : World} {B c' : Nat} {v : Value} {a' : Option Addr} {ts us : List Pr} {y z : Nat → Six} (h : FW e W w B v ts y) (hk : ∀ i (h : i < us.length), PR W us[i] (z i))
    (q1 : w'.ownsRow B e 6 (.slice a' (ts.length + us.length) c') (ts.length + us.length) (cellsF ts.length 6 (sixC y) ++ cellsF us.length 6 (sixC z))) : FW e W w' B (.slice a' (ts.length + us.length) c') (ts ++ us) (fun i => if i < ts.length then y i else z (i - ts.length)) := by
  refine ⟨?_, fun i hi => ?_⟩
  · rw [List.length_append]
    rw [← cellsF_append (by decide)] at q1
    rw [cellsF_congr (c' := fun i j => if i < ts.length then sixC y i j else sixC z (i - ts.length) j) (by decide) (fun i j _ _ => by unfold sixC; by_cases c : i < ts.length <;> simp [c])]
    exact q1
  · by_cases c : i < ts.length
    · rw [List.getElem_append_left c]
      simp only [if_pos c]
      exact h.kid i c
    · have hi2 : i - ts.length < us.length := by rw [List.length_append] at hi; omega
      rw [List.getElem_append_right (by omega)]
      simp only [if_neg c]
      exact hk _ hi2

set_option maxHeartbeats 8000000 in
theorem rflat_any : ∀ (t : Pr) (x : Six) (W w : World), PR W t x → Below W.heap.size W w → t.cnt ≤ 100000 →
    Calls Tryd.prog 21 #[x.v] w fun e w' => ∃ (v : Value) (y : Nat → Six), e = .returned v ∧ FW 31 W w' w.heap.size v (flatT t) y ∧ Below w.heap.size w w' := by
  refine Pr.ind' fun pa rg us cs ks ps ih => ?_
  intro x W w h hW hcnt
  have HPR := hide_p h
  rw [PR_mk] at h
  obtain ⟨pa', rg', vu, vc, vk, vp⟩ := x
  simp only at h
  obtain ⟨rfl, rfl, hpa, hrg, hu, hc, hk, f, hp, hch⟩ := h
  obtain ⟨au, cu, rfl, -, -, -⟩ := hu.1.val
  obtain ⟨ac, cc, rfl, -, -, -⟩ := hc.1.val
  obtain ⟨ak, ck, rfl, -, -, -⟩ := hk.1.val
  obtain ⟨ap, cp, rfl, hpl, hpc, lp⟩ := hp.val
  obtain ⟨ip0, ip1, ip2, ip3, ip4⟩ := info_parts infoProto
  have HFL : Hid (∀ i, (flatL [.mk pa' rg' us cs ks ps] (ps.take i)).length ≤ 100001) := by
    intro i
    have h1 := flatL_len (ps.take i) (fun q hq => flatT_len q) [.mk pa' rg' us cs ks ps]
    have h2 := pcnts_append (ps.take i) (ps.drop i)
    rw [List.take_append_drop] at h2
    rw [Pr.cnt_mk] at hcnt
    simp only [List.length_singleton] at h1
    omega
  rw [flatT_mk]
  rw [Pr.cnt_mk] at hcnt
  unfold Six.v
  simp only
  have HI : Hid _ := ih
  have HCH := (show Hid (∀ i (h : i < ps.length), PR W ps[i] (f i)) from hch)
  obtain ⟨np, hnp⟩ : ∃ n, n = ps.length := ⟨_, rfl⟩
  have HNP := hide_p hnp
  have HSP : Hid (SL W (.slice ap np cp) ps.length 6 (fun i j u => u = (f i).at j)) := by rw [hnp]; exact hp
  have HCN : Hid (pcnts ps ≤ 100000) := by show _ ≤ _; omega
  have hl4 : ps.length ≤ 100000 := by have := plen_cnts ps; omega
  rw [← hnp]
  rw [← hnp] at hl4
  have HHW := hide_p hW
  generalize us.length = nu at *
  generalize cs.length = nc at *
  generalize ks.length = nk at *
  clear hu hc hk hp hch ih hnp lp hcnt hpl hpc hW
  obtain ⟨bx, hbx⟩ : ∃ bx, bx = w.heap.size := ⟨_, rfl⟩
  obtain ⟨w1, hw1⟩ : ∃ w1, w1 = (w.alloc (.cells #[.int .i64 pa', .int .i64 rg', .slice au nu cu, .slice ac nc cc, .slice ak nk ck, .slice ap np cp] 31)).alloc (.cells #[.int .i64 pa', .int .i64 rg', .slice au nu cu, .slice ac nc cc, .slice ak nk ck, .slice ap np cp] 31) := ⟨_, rfl⟩
  have hs1 : w1.heap.size = bx + 2 := by rw [hw1, hbx]; simp
  have HB1 : Hid (Below w.heap.size w w1) := by rw [hw1]; exact ((Below.refl _ _).alloc (Nat.le_refl _) _).alloc (by simp) _
  have HA5 : Hid (w1.cell? ⟨bx, 5, none⟩ = some (.slice ap np cp)) := by show _ = _; rw [hw1, hbx, World.cell?_alloc_lt _ _ _ (by simp), World.cell?_alloc_new]; rfl
  have HR0 : Hid (FW 31 W w1 (bx + 1) (.slice (some ⟨bx + 1, 0, none⟩) 1 1) (flatL [.mk pa' rg' us cs ks ps] (ps.take 0)) (fun _ => ⟨pa', rg', .slice au nu cu, .slice ac nc cc, .slice ak nk ck, .slice ap np cp⟩)) := by
    refine ⟨⟨rfl, Or.inr ⟨bx + 1, 1, #[.int .i64 pa', .int .i64 rg', .slice au nu cu, .slice ac nc cc, .slice ak nk ck, .slice ap np cp], rfl, Nat.le_refl _, ?_, Nat.le_refl _, by unfold maxLen; omega, rfl, rfl⟩⟩, fun i hi => ?_⟩
    · rw [hw1, hbx]
      have := heap_alloc_new (w.alloc (.cells #[.int .i64 pa', .int .i64 rg', .slice au nu cu, .slice ac nc cc, .slice ak nk ck, .slice ap np cp] 31)) (.cells #[.int .i64 pa', .int .i64 rg', .slice au nu cu, .slice ac nc cc, .slice ak nk ck, .slice ap np cp] 31)
      simpa using this
    · have hi0 : i = 0 := by
        have : i < 1 := hi
        omega
      subst hi0
      have := HPR.out
      rw [← HNP.out] at this
      exact this
  go_enter Tryd.func21, Tryd.ntmps21
  go_wp2_with fail
  rw [← hw1]
  rw [← hbx]
  have HBX := hide_p hbx
  clear hw1 hbx
  go_loopw [3, 4] (fun t3 t4 wr => ∃ (i : Nat) (y : Nat → Six), i ≤ np ∧ t4 = .int .i64 i ∧ Hid (FW 31 W wr (bx + 1) t3 (flatL [.mk pa' rg' us cs ks ps] (ps.take i)) y) ∧ Hid (Below (bx + 1) w1 wr)) (fun _ t4 _ => np - (intOf t4).toNat)
  case atStart => exact ⟨0, _, Nat.zero_le _, rfl, HR0, Below.refl _ _⟩
  case round =>
    obtain ⟨i, y, hi, rfl, HF, HB⟩ := hrel
    have HBw : Hid (Below w.heap.size w wr) := HB1.out.trans (HB.out.mono (by have := HBX.out; omega))
    have HBW : Hid (Below W.heap.size W wr) := HHW.out.trans (HBw.out.mono HHW.out.size)
    have b5 : wr.cell? ⟨bx, 5, none⟩ = some (.slice ap np cp) := (HB.out.cell (p := ⟨bx, 5, none⟩) (by show bx < bx + 1; omega)).trans HA5.out
    have hszr : bx + 2 ≤ wr.heap.size := by have := HB.out.size; omega
    by_cases c : i < np
    · have i1 : i < ps.length := by rw [← HNP.out]; exact c
      obtain ⟨-, g, o, rfl, e0, e1, e2, e3, e4, e5⟩ := SP.get (HSP.out.kept HBW.out (Nat.le_refl _)) i1
      have hcall := HI.out ps[i] (List.getElem_mem i1) (f i) W wr (HCH.out i i1) HBW.out (by have := pcnts_get i i1; have := HCN.out; omega)
      have HTK : Hid (flatL [.mk pa' rg' us cs ks ps] (ps.take (i + 1)) = flatL [.mk pa' rg' us cs ks ps] (ps.take i) ++ flatT ps[i]) := flatL_take _ _ i i1
      have hbnd := HFL.out (i + 1)
      rw [HTK.out, List.length_append] at hbnd
      generalize ps[i] = q at *
      generalize hLL : flatL [.mk pa' rg' us cs ks ps] (ps.take i) = LL at *
      clear hLL
      unfold Six.v at hcall
      generalize f i = z at *
      obtain ⟨ypa, yrg, yu, yc, yk, yp⟩ := z
      simp only at e0 e1 e2 e3 e4 e5 hcall
      go_wp2_with fail
      refine hcall.mono ?_
      rintro e w2 ⟨v2, y2, rfl, hfw2, hb2⟩
      have hs2 := hb2.size
      have hown : w2.ownsRow (bx + 1) 31 6 u3 LL.length (cellsF LL.length 6 (sixC y)) := own_below HF.out.own hb2
      have hsrc := hfw2.src
      have HB2 : Hid (Below (bx + 1) w1 w2) := HB.out.trans (hb2.mono (by omega))
      have HKID := hide_p hfw2.kid
      have HMO : Hid (∀ (w4 : World) (a' : Option Addr) (c' : Nat), w4.ownsRow (bx + 1) 31 6 (.slice a' (LL.length + (flatT q).length) c') (LL.length + (flatT q).length) (cellsF LL.length 6 (sixC y) ++ cellsF (flatT q).length 6 (sixC y2)) → ∃ y', FW 31 W w4 (bx + 1) (.slice a' (LL.length + (flatT q).length) c') (LL ++ flatT q) y') := fun w4 a' c' q1 => ⟨_, HF.out.more HKID.out q1⟩
      clear hb2 hcall e0 e1 e2 e3 e4 e5 hfw2 HKID
      generalize (flatT q).length = n2 at *
      generalize LL.length = n1 at *
      go_wp2_with (at_builtin; refine wpList_append_src _ rfl _ _ 29 rfl (bx + 1) 31 ip0 _ 6 112 Tryd.underlying29 ip1 ip2 ip3 ip4 rfl (by decide) _ n1 _ rfl hown _ n2 _ rfl hsrc (by unfold maxLen; omega) (by omega) (by omega) ?_)
      intro a' c' w4 q1 q2 q3
      have HM4 := hide_p (HMO.out w4 a' c' q1)
      have HB4 : Hid (Below (bx + 1) w1 w4) := HB2.out.grown q2 (by omega) (fun k hk => (hown.lt k hk).1)
      clear q1 q2 q3 hown hsrc HMO HB2
      obtain ⟨y', hy'⟩ := HM4.out
      have HF4 : Hid (FW 31 W w4 (bx + 1) (.slice a' (n1 + n2) c') (flatL [.mk pa' rg' us cs ks ps] (ps.take (i + 1))) y') := by show FW _ _ _ _ _ _ _; rw [HTK.out]; exact hy'
      clear hy' HM4
      go_wp2
      go_roundw
      case rel => exact ⟨i + 1, y', by omega, by go_num, HF4, HB4⟩
      case measure => simp [intOf]; omega
    · have e : i = np := by omega
      have hfw := HF.out
      rw [List.take_of_length_le (by have := HNP.out; omega)] at hfw
      have HFE : Hid (FW 31 W wr w.heap.size u3 (flatL [.mk pa' rg' us cs ks ps] ps) y) := by
        refine ⟨⟨hfw.own.1, ?_⟩, hfw.kid⟩
        rcases hfw.own.2 with h | ⟨g, cap, cur, h1, h2, h3⟩
        · exact Or.inl h
        · exact Or.inr ⟨g, cap, cur, h1, by have := HBX.out; omega, h3⟩
      obtain ⟨a3, c3, e3⟩ := owns_form hfw.own
      subst e
      clear hfw HF
      go_wp2
      go_ret
      exact ⟨_, y, rfl, HFE.out, HBw.out⟩

end Go.Proofs.YtnigmiokadpajaaDoor
