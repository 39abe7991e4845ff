/-
  Layer 19: the landed readMembers and twoNumbers, walked.
-/
import Derived.Test.YtjngknnkffbnmaaDoorGS1
import Derived.Test.YtjngknnkffbnmaaDoorGL
namespace Go.Proofs.YtjngknnkffbnmaaDoor
set_option maxRecDepth 100000
open Go.RowKit Crc Sn

namespace Sn
theorem results_tmp4 {fn : Func} {t u v x : Tmp} (h : fn.results = #[.tmp t, .tmp u, .tmp v, .tmp x]) (tmps : Array Value) (P : Program) (w : World) :
    (results fn tmps).run P w = .ok (.tuple #[tmps.getD t undef, tmps.getD u undef, tmps.getD v undef, tmps.getD x undef]) w := by
  simp [results, h]
/-- Whether a part is a number that a member may be. -/
def numM (x : Tr) : Bool := decide (x.k = 0) && decide (x.n ≤ 64)
/-- Whether a tree is a list of members. -/
def rmB (t : Tr) : Bool := decide (t.k = 2) && t.l.all numM && memB (numsL t)
/-- Whether a tree begins with two numbers. -/
def twoB (t : Tr) : Bool := decide (t.k = 2) && decide (2 ≤ t.l.length) && decide ((atT t 0).k = 0) && decide ((atT t 1).k = 0)
theorem nums_get {k : Int} {n : Nat} {s : ByteArray} {l : List Tr} (hk : k = 2) (h : l.all numM = true) : (numsL (.mk k n s l)).length = l.length ∧ ∀ i (hi : i < l.length), (numsL (.mk k n s l))[i]? = some (l[i].n : Int) := by
  unfold numsL
  rw [if_pos (show (Tr.mk k n s l).k = 2 from hk)]
  refine ⟨by simp, fun i hi => ?_⟩
  rw [List.getElem?_map, List.getElem?_eq_getElem (show i < (Tr.mk k n s l).l.length from hi)]
  have := List.all_eq_true.1 h l[i] (List.getElem_mem hi)
  unfold numM at this
  simp only [Bool.and_eq_true, decide_eq_true_eq] at this
  show some (if l[i].n ≤ 64 then (l[i].n : Int) else 0) = _
  rw [if_pos this.2]
theorem two_no {k : Int} {n : Nat} {s : ByteArray} {l : List Tr} (h : k ≠ 2 ∨ l.length < 2) : twoB (.mk k n s l) = false := by
  unfold twoB
  rcases h with h | h
  · simp [h]
  · have : decide (2 ≤ (Tr.mk k n s l).l.length) = false := decide_eq_false (by show ¬ 2 ≤ l.length; omega)
    rw [this]; simp
theorem at_get {n : Nat} {s : ByteArray} {l : List Tr} {i : Nat} (hi : i < l.length) : atT (.mk 2 n s l) i = l[i] := by
  rw [at_mk, List.getD_eq_getElem?_getD, List.getElem?_eq_getElem hi]; rfl
theorem two_yes {n : Nat} {s : ByteArray} {l : List Tr} (h : 2 ≤ l.length) : twoB (.mk 2 n s l) = (decide (l[0].k = 0) && decide (l[1].k = 0)) := by
  unfold twoB
  rw [at_get (show 0 < l.length by omega), at_get (show 1 < l.length by omega)]
  simp [h]
/-- The rest of a row is one. -/
theorem csDrop {w : World} {S : Nat → Prop} {k0 : Int} {n0 : Nat} {s0 : ByteArray} {ts : List Tr} {g o cap : Nat} (h : CS w S (.mk k0 n0 s0 ts) (cellV k0 n0 s0 (.slice (some ⟨g, o, none⟩) ts.length cap))) (d : Nat) (hd : d ≤ ts.length) (a : Option Addr) (ha : a = some ⟨g, o, none⟩ ∧ cap = d ∨ a = some ⟨g, o + d * 4, none⟩) :
    CS w S (lisT (ts.drop d)) (cellV 2 0 nob (.slice a (ts.length - d) (cap - d))) := by
  have hcr := crParts h.cr
  obtain ⟨-, hS, ks, ns, ss, us, hx, hr⟩ := csParts h
  have hl : (ts.drop d).length = ts.length - d := List.length_drop
  unfold lisT
  rw [← hl]
  refine CS.mk 2 0 nob (ts.drop d) a (cap - d) (fun i => ks (d + i)) (fun i => ns (d + i)) (fun i => ss (d + i)) (fun i => us (d + i)) (by decide) (by decide) (by decide) (by omega) (by omega) (fun e => ?_) (fun x e hne => ?_) (fun x i e hi => ?_) (fun i hi => ?_)
  · rcases ha with ⟨ha, -⟩ | ha <;> rw [ha] at e <;> cases e
  · have hne2 : ts ≠ [] := fun q => hne (by rw [q]; simp)
    have := hS _ rfl hne2
    rcases ha with ⟨ha, -⟩ | ha <;> rw [ha] at e <;> cases e <;> exact this
  · rw [hl] at hi
    rcases ha with ⟨-, ha⟩ | ha
    · omega
    · rw [ha] at e
      cases e
      obtain ⟨h1, h2⟩ := hx _ (d + i) rfl (by omega)
      refine ⟨rfl, ?_⟩
      have e40 : o + d * 4 + i * 4 = o + (d + i) * 4 := by omega
      obtain ⟨l0, l1, l2, l3⟩ := h2
      exact ⟨by rw [e40]; exact l0, by rw [e40]; exact l1, by rw [e40]; exact l2, by rw [e40]; exact l3⟩
  · rw [List.getElem_drop]
    exact hr (d + i) (by omega)
end Sn

set_option maxHeartbeats 4000000 in
theorem readMembers_any (t : Tr) (v : Value) (w : World) (h : CR w t v) (hlen : t.l.length ≤ 1000000) :
    Calls Tryd.prog 47 #[v] w fun e w' => ∃ a' n' c', e = .returned (.tuple #[.slice a' n' c', .bool (rmB t)]) ∧ Below w.heap.size w w' ∧ (rmB t = true → NO w' w.heap.size (.slice a' n' c') (numsL t)) := by
  obtain ⟨i0, hi0, hz0, hz1, hz2⟩ := info_parts infoInt
  obtain ⟨a, cap, rfl⟩ := crShape h
  obtain ⟨k, n, s, l⟩ := t
  simp only at h hlen ⊢
  have HG := hide_p (fun i hi => crGet h i hi)
  have hcap := (crParts h).2.2.2.1
  have hcap2 := (crParts h).2.2.2.2.1
  obtain ⟨N, hN⟩ : ∃ N, N = l.length := ⟨_, rfl⟩
  have HN := hide_p hN
  obtain ⟨R, hR⟩ : ∃ R, R = rmB (.mk k n s l) := ⟨_, rfl⟩
  have HRR := hide_p hR
  obtain ⟨L, hL⟩ : ∃ L, L = numsL (.mk k n s l) := ⟨_, rfl⟩
  have HL := hide_p hL
  rw [← hR, ← hL, ← hN]
  rw [← hN] at hlen hcap
  have HNG := (show Hid (k = 2 → l.all numM = true → L.length = N ∧ ∀ i (hi : i < l.length), L[i]? = some (l[i].n : Int)) from fun e1 e2 => by rw [hL, hN]; exact nums_get e1 e2)
  have HR2 := (show Hid (k = 2 → R = (l.all numM && memB L)) from fun e1 => by rw [hR, hL]; unfold rmB; simp [e1])
  have HB0 : Hid (∀ o : Obj, Below w.heap.size w (w.alloc o)) := fun o => (Below.refl _ _).alloc (Nat.le_refl _) o
  obtain ⟨w1, hw1⟩ : ∃ w1, w1 = w.alloc (.cells #[.int .i64 k, .int .u64 n, .string s, .slice a N cap] 26) := ⟨_, rfl⟩
  have HB1 : Hid (Below w.heap.size w w1) := by show Below _ _ _; rw [hw1]; exact HB0.out _
  have HA1 : Hid (w1.heap[w.heap.size]? = some (.cells #[.int .i64 k, .int .u64 n, .string s, .slice a N cap] 26 (0, 0))) := by show _ = _; rw [hw1]; exact heap_alloc_new _ _
  have hs1 : w1.heap.size = w.heap.size + 1 := by rw [hw1]; simp
  obtain ⟨x0, x1, x2, x3⟩ := block4 HA1.out
  unfold cellV at HG ⊢
  by_cases hk : k = 2
  · subst hk
    replace HR2 := hide_p (HR2.out rfl)
    replace HNG := hide_p (HNG.out rfl)
    have HM : Hid (∀ w2 xs, w2.ownsRow (w.heap.size + 1) 3 1 (.slice (some ⟨w.heap.size + 1, 0, none⟩) N N) N xs → w1.grownBy w2 none → (∃ xs, w2.ownsRow (w.heap.size + 1) 3 1 (.slice (some ⟨w.heap.size + 1, 0, none⟩) N N) N xs ∧ ∀ j (h : j < l.length), j < 0 → xs[j]? = some (.int .i64 l[j].n)) ∧ Below (w.heap.size + 1) w1 w2 ∧ w2.heap[w.heap.size]? = some (.cells #[.int .i64 2, .int .u64 n, .string s, .slice a N cap] 26 (0, 0))) := by
      intro w2 xs q1 q2
      have hb : Below (w.heap.size + 1) w1 w2 := (Below.refl _ w1).grown q2 (by omega) (fun k hk => by cases hk)
      exact ⟨⟨_, q1, fun j _ h => absurd h (Nat.not_lt_zero _)⟩, hb, (hb.block _ (by omega)).trans HA1.out⟩
    clear h hN hR hL
    go_enter Tryd.func47, Tryd.ntmps47
    go_upto_region 1 with fail
    rw [← hw1]
    clear hw1
    go_wp2_with (at_make; refine wpList_make_full _ rfl _ _ 23 rfl (w.heap.size + 1) 3 i0 (.int .i64 0) 1 Tryd.underlying23 hi0 hz0 hz1 .i64 .i64 _ _ N rfl rfl rfl rfl (by rw [hz2]; omega) (by unfold maxLen; omega) (by omega) ?_)
    intro w2 q1 q2
    obtain ⟨q3, q4, q5⟩ := HM.out w2 _ q1 q2
    have HX := hide_p q3
    have HB2 := hide_p q4
    obtain ⟨x0', x1', x2', x3'⟩ := block4 q5
    clear x0 x1 x2 x3 q1 q2 q3 q4 q5 HM
    go_wp2_with fail
    go_loopw [17] (fun t17 wr => ∃ i : Nat, i ≤ N ∧ t17 = .int .i64 i ∧ Hid (∃ xs, wr.ownsRow (w.heap.size + 1) 3 1 (.slice (some ⟨w.heap.size + 1, 0, none⟩) N N) N xs ∧ ∀ j (h : j < l.length), j < i → xs[j]? = some (.int .i64 l[j].n)) ∧ Hid ((l.take i).all numM = true) ∧ Hid (Below (w.heap.size + 1) w1 wr)) (fun t17 _ => N - (intOf t17).toNat)
    case atStart => exact ⟨0, Nat.zero_le _, rfl, HX, rfl, HB2⟩
    case round =>
      obtain ⟨i, hi, rfl, HXr, HA, HB⟩ := hrel
      have hszr := HB.out.size
      have HBw : Hid (Below w.heap.size w wr) := HB1.out.trans (HB.out.mono (by omega))
      clear x0' x1' x2' x3'
      by_cases c : i < N
      · have i1 : i < l.length := by rw [← HN.out]; exact c
        obtain ⟨g, o, b, cc, rfl, hlies, -⟩ := HG.out i i1
        obtain ⟨l0, l1, l2, l3⟩ := hlies.below HBw.out (Nat.le_refl _)
        have HTK : Hid ((l.take (i + 1)).all numM = (numM l[i])) := by
          show _ = _
          rw [List.take_succ_eq_append_getElem i1, List.all_append, HA.out]
          simp
        have HST : Hid (∀ wq, Below wr.heap.size wr wq → wq.frozen? ⟨w.heap.size + 1, i, none⟩ = false ∧ (∃ u, wq.cell? ⟨w.heap.size + 1, i, none⟩ = some u) ∧ (∃ xs, (wq.setCell ⟨w.heap.size + 1, i, none⟩ (.int .i64 l[i].n)).ownsRow (w.heap.size + 1) 3 1 (.slice (some ⟨w.heap.size + 1, 0, none⟩) N N) N xs ∧ ∀ j (h : j < l.length), j < i + 1 → xs[j]? = some (.int .i64 l[j].n)) ∧ Below (w.heap.size + 1) w1 (wq.setCell ⟨w.heap.size + 1, i, none⟩ (.int .i64 l[i].n))) := by
          intro wq hq
          obtain ⟨xs, x1, x2⟩ := HXr.out
          have x3 : wq.ownsRow (w.heap.size + 1) 3 1 (.slice (some ⟨w.heap.size + 1, 0, none⟩) N N) N xs := ownsRow_far x1 (hq.block _ (x1.lt _ rfl).2) rfl
          have hxl : xs.length = N := by have := x1.1; omega
          refine ⟨x3.frozenAt i, ⟨xs[i]'(by omega), ?_⟩, ⟨_, (x3.stored i _).1, fun j hj hji => ?_⟩, (HB.out.trans (hq.mono (by omega))).setCell (Nat.le_refl _) _⟩
          · rw [x3.cellAt i (by omega)]
            exact List.getElem?_eq_getElem (by omega)
          · rw [List.getElem?_set]
            by_cases e : i = j
            · subst e
              rw [if_pos rfl, if_pos (by omega)]
            · rw [if_neg e]
              exact x2 j hj (by omega)
        have HBA : Hid (∀ ob, Below wr.heap.size wr (wr.alloc ob)) := fun ob => (Below.refl _ _).alloc (Nat.le_refl _) ob
        have HBW : Hid (∀ ob, Below w.heap.size w (wr.alloc ob)) := fun ob => HBw.out.alloc HBw.out.size ob
        have HF : Hid (numM l[i] = false → R = false) := by
          intro hf
          have : l.all numM = false := by rw [List.all_eq_false]; exact ⟨l[i], List.getElem_mem i1, by simp [hf]⟩
          rw [HR2.out, this]
          rfl
        by_cases hk : l[i].k = 0
        · by_cases hn : l[i].n ≤ 64
          · have hb : numM l[i] = true := by unfold numM; simp [hk, hn]
            rw [hb] at HTK
            clear HF HXr hb
            generalize l[i].n = n' at *
            generalize l[i].k = k' at *
            generalize l[i].s = s' at *
            generalize l[i].l.length = m' at *
            subst hk
            obtain ⟨f0, ⟨u0, c0⟩, HS1, HS2⟩ := HST.out _ (HBA.out (.cells #[.int .i64 0, .int .u64 n', .string s', .slice b m' cc] 26))
            have HS1 := hide_p HS1
            have HS2 := hide_p HS2
            clear HST
            go_wp2
            go_roundw
            case rel => exact ⟨i + 1, by omega, by go_num, HS1, HTK, HS2⟩
            case measure => simp [intOf]; omega
          · have hb : numM l[i] = false := by unfold numM; simp [hn]
            have hR := HF.out hb
            have hn2 : 64 < (l[i].n : Int) := by omega
            clear HST HF HXr HTK HR2 HRR
            generalize l[i].n = n' at *
            generalize l[i].k = k' at *
            generalize l[i].s = s' at *
            generalize l[i].l.length = m' at *
            subst hk hR
            go_wp2
            go_ret2
            exact ⟨_, _, _, rfl, HBW.out _, fun e => by cases e⟩
        · have hb : numM l[i] = false := by unfold numM; simp [hk]
          have hR := HF.out hb
          clear HST HF HXr HTK HR2 HRR
          generalize l[i].n = n' at *
          generalize l[i].k = k' at *
          generalize l[i].s = s' at *
          generalize l[i].l.length = m' at *
          subst hR
          go_wp2
          go_ret2
          exact ⟨_, _, _, rfl, HBW.out _, fun e => by cases e⟩
      · have e : i = N := by omega
        have hA := HA.out
        rw [List.take_of_length_le (by have := HN.out; omega)] at hA
        have hRM : R = memB L := by rw [HR2.out, hA]; rfl
        have HLN : Hid (L.length = N) := (HNG.out hA).1
        have HNO : Hid (NO wr (w.heap.size + 1) (.slice (some ⟨w.heap.size + 1, 0, none⟩) N N) L) := by
          obtain ⟨xs, x1, x2⟩ := HXr.out
          have hxl : xs.length = N := by have := x1.1; omega
          obtain ⟨g1, g2⟩ := HNG.out hA
          have e : xs = L.map intV := by
            apply List.ext_getElem?
            intro j
            by_cases hj : j < l.length
            · rw [x2 j hj (by have := HN.out; omega), List.getElem?_map, g2 j hj]
              rfl
            · rw [List.getElem?_eq_none (by have := HN.out; omega), List.getElem?_eq_none (by rw [List.length_map]; have := HN.out; omega)]
          show NO _ _ _ _
          unfold NO
          rw [← e, g1]
          exact x1
        have hcall := lMembers_any L _ wr HNO.out.nr
        subst e
        generalize memB L = MB at *
        clear HXr HA HX hA HR2 HRR HNG HL
        go_wp2_with fail
        refine hcall.mono ?_
        rintro e w5 ⟨rfl, hb5⟩
        have HB5 : Hid (Below w.heap.size w w5) := HBw.out.trans (hb5.mono HBw.out.size)
        have HN5 : Hid (NO w5 w.heap.size (.slice (some ⟨w.heap.size + 1, 0, none⟩) i i) L) := (HNO.out.far hb5 (Nat.le_refl _)).low (by omega)
        clear hcall hb5
        subst hRM
        cases R with
        | false =>
          go_wp2
          go_ret2
          exact ⟨_, _, _, rfl, HB5.out, fun e => by cases e⟩
        | true =>
          go_wp2
          go_ret2
          first
            | exact ⟨_, _, _, rfl, HB5.out, HN5.out⟩
            | exact ⟨_, _, _, rfl, HB5.out, fun _ => HN5.out⟩
  · have hR2 : R = false := by rw [hR]; unfold rmB; simp [hk]
    clear h hN hR hL HRR HR2
    subst hR2
    go_enter Tryd.func47, Tryd.ntmps47
    go_upto_region 1 with fail
    rw [← hw1]
    clear hw1
    go_wp2
    go_ret2
    exact ⟨_, _, _, rfl, HB1.out, fun e => by cases e⟩

set_option maxHeartbeats 4000000 in
theorem twoNumbers_any (S : Nat → Prop) (t : Tr) (v : Value) (w : World) (h : CS w S t v) :
    Calls Tryd.prog 45 #[v] w fun e w' => ∃ (p q : Nat) (a' : Option Addr) (n' c' : Nat), e = .returned (.tuple #[.int .u64 p, .int .u64 q, .slice a' n' c', .bool (twoB t)]) ∧ Below w.heap.size w w' ∧ (twoB t = true → p = (atT t 0).n ∧ q = (atT t 1).n ∧ n' = t.l.length - 2 ∧ CS w S (lisT (t.l.drop 2)) (cellV 2 0 nob (.slice a' n' c'))) := by
  obtain ⟨a, cap, rfl⟩ := crShape h.cr
  obtain ⟨k, n, s, l⟩ := t
  simp only at h ⊢
  have hcap := (crParts h.cr).2.2.2.1
  have hcap2 := (crParts h.cr).2.2.2.2.1
  obtain ⟨R, hR⟩ : ∃ R, R = twoB (.mk k n s l) := ⟨_, rfl⟩
  rw [← hR]
  have HB0 : Hid (∀ o : Obj, Below w.heap.size w (w.alloc o)) := fun o => (Below.refl _ _).alloc (Nat.le_refl _) o
  by_cases hk : k ≠ 2 ∨ l.length < 2
  · rw [two_no hk] at hR
    subst hR
    clear h
    have hk2 : ¬ k = 2 ∨ (k = 2 ∧ (l.length : Int) < 2) := by omega
    generalize l.length = m at *
    unfold cellV
    obtain ⟨w1, hw1⟩ : ∃ w1, w1 = w.alloc (.cells #[.int .i64 k, .int .u64 n, .string s, .slice a m cap] 26) := ⟨_, rfl⟩
    have HB1 : Hid (Below w.heap.size w w1) := by show Below _ _ _; rw [hw1]; exact HB0.out _
    have HA1 : Hid (w1.heap[w.heap.size]? = some (.cells #[.int .i64 k, .int .u64 n, .string s, .slice a m cap] 26 (0, 0))) := by show _ = _; rw [hw1]; exact heap_alloc_new _ _
    obtain ⟨x0, x1, x2, x3⟩ := block4 HA1.out
    clear hk
    rcases hk2 with hk | ⟨rfl, hk⟩
    all_goals
      go_enter Tryd.func45, Tryd.ntmps45
      go_upto_region 1 with fail
      rw [← hw1]
      clear hw1
      go_wp2
      exact bodyPost_ret (results_tmp4 rfl _ _ _) rfl ⟨_, _, _, _, _, rfl, HB1.out, fun e => by cases e⟩
  · have hk2 : k = 2 := by omega
    subst hk2
    have hl2 : 2 ≤ l.length := by omega
    rw [two_yes hl2] at hR
    obtain ⟨g, o, b0, c0, rfl, -, hl0, -⟩ := csGet h 0 (by omega)
    obtain ⟨g', o', b1, c1, e1, -, hl1, -⟩ := csGet h 1 (by omega)
    cases e1
    have HRS : Hid (∀ a', a' = some ⟨g, o, none⟩ ∧ cap = 2 ∨ a' = some ⟨g, o + 2 * 4, none⟩ → CS w S (lisT (l.drop 2)) (cellV 2 0 nob (.slice a' (l.length - 2) (cap - 2)))) := fun a' ha => csDrop h 2 hl2 a' ha
    have HAT : Hid ((atT (.mk 2 n s l) 0).n = l[0].n ∧ (atT (.mk 2 n s l) 1).n = l[1].n) := ⟨by rw [at_get], by rw [at_get]⟩
    obtain ⟨w1, hw1⟩ : ∃ w1, w1 = w.alloc (.cells #[.int .i64 2, .int .u64 n, .string s, .slice (some ⟨g, o, none⟩) l.length cap] 26) := ⟨_, rfl⟩
    have HB1 : Hid (Below w.heap.size w w1) := by show Below _ _ _; rw [hw1]; exact HB0.out _
    have HA1 : Hid (w1.heap[w.heap.size]? = some (.cells #[.int .i64 2, .int .u64 n, .string s, .slice (some ⟨g, o, none⟩) l.length cap] 26 (0, 0))) := by show _ = _; rw [hw1]; exact heap_alloc_new _ _
    obtain ⟨x0, x1, x2, x3⟩ := block4 HA1.out
    obtain ⟨y0, y1, y2, y3⟩ := hl0.below HB1.out (Nat.le_refl _)
    obtain ⟨z0, z1, z2, z3⟩ := hl1.below HB1.out (Nat.le_refl _)
    clear h hl0 hl1
    simp only [Nat.zero_mul, Nat.add_zero, Nat.one_mul] at y0 y1 y2 y3 z0 z1 z2 z3
    unfold cellV
    generalize l[0].n = p0 at *
    generalize l[0].k = k0 at *
    generalize l[0].s = s0 at *
    generalize l[0].l.length = m0 at *
    generalize l[1].n = p1 at *
    generalize l[1].k = k1 at *
    generalize l[1].s = s1 at *
    generalize l[1].l.length = m1 at *
    generalize l.length = m at *
    have dm : decide ((m : Int) < 2) = false := decide_eq_false (by omega)
    by_cases d0 : k0 = 0
    · by_cases d1 : k1 = 0
      · have hR2 : R = true := by rw [hR]; simp [d0, d1]
        subst d0 d1 hR2
        clear hR
        go_enter Tryd.func45, Tryd.ntmps45
        go_upto_region 1 with fail
        rw [← hw1]
        clear hw1
        go_wp2_with fail
        go_big_quiet (fail)
        go_wp2
        all_goals
          refine bodyPost_ret (results_tmp4 rfl _ _ _) rfl ⟨_, _, _, _, _, rfl, drewN_below HB1.out _, HAT.out.1.symm, HAT.out.2.symm, rfl, ?_⟩
          first
            | (have hc : cap = 2 := by assumption
               have hq := HRS.out (some ⟨g, o, none⟩) (Or.inl ⟨rfl, hc⟩)
               rw [hc] at hq
               exact hq)
            | exact HRS.out _ (Or.inr rfl)
      · have hR2 : R = false := by rw [hR]; simp [d1]
        subst d0 hR2
        clear hR
        have d1b : (k1 != 0) = true := by simp [d1]
        go_enter Tryd.func45, Tryd.ntmps45
        go_upto_region 1 with fail
        rw [← hw1]
        clear hw1
        go_wp2
        exact bodyPost_ret (results_tmp4 rfl _ _ _) rfl ⟨_, _, _, _, _, rfl, HB1.out, fun e => by cases e⟩
    · have hR2 : R = false := by rw [hR]; simp [d0]
      subst hR2
      clear hR
      have d0b : (k0 != 0) = true := by simp [d0]
      go_enter Tryd.func45, Tryd.ntmps45
      go_upto_region 1 with fail
      rw [← hw1]
      clear hw1
      go_wp2
      exact bodyPost_ret (results_tmp4 rfl _ _ _) rfl ⟨_, _, _, _, _, rfl, HB1.out, fun e => by cases e⟩

end Go.Proofs.YtjngknnkffbnmaaDoor
