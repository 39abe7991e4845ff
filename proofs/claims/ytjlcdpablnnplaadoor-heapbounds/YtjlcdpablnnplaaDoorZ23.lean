/-
  HpLook, HpNum, HpLives, HpFresh, HpClose, HpTd
-/
import Derived.Test.YtjlcdpablnnplaaDoorCards
import Derived.Test.YtjlcdpablnnplaaDoorTie
import Derived.SizedLaws
import Derived.Carry
import Derived.ShutString
import Derived.OpenShut
import Derived.Deep.DeepHandedRow
import Derived.Lib.LaidTab
import Derived.LaidMore
import Derived.Test.YtjlcdpablnnplaaDoorZ22

/-
  Layer 9: Look.
-/
namespace Go.Proofs.YtjlcdpablnnplaaDoor
set_option maxRecDepth 100000
open Go.RowKit Flo

/-- What is found of a key in a table, or in those that stand in for it, so many at most. -/
def lookF (os : List Ob) (K N : Int) (S : ByteArray) (O : Int) : Nat → Ob → V4
  | 0, x => fndV (ofKey K N S O x.es)
  | n + 1, x => if (fndV (ofKey K N S O x.es)).K = 0 ∧ x.M.K ≠ 0 then (match tabOf os x.M.O with
    | some y => lookF os K N S O n y
    | none => V0) else fndV (ofKey K N S O x.es)
def lookV (os : List Ob) (o K N : Int) (S : ByteArray) (O : Int) : V4 := match tabOf os o with
  | none => V0
  | some x => if kok K N then lookF os (yK K N) (yN K N) (yS K N S) (yO K N O) 16 x else V0
theorem lookF_stop {os : List Ob} {K N : Int} {S : ByteArray} {O : Int} {n : Nat} {x : Ob} (h : n = 0 ∨ (fndV (ofKey K N S O x.es)).K ≠ 0 ∨ x.M.K = 0) : lookF os K N S O n x = fndV (ofKey K N S O x.es) := by
  cases n with
  | zero => rfl
  | succ n =>
    rw [lookF, if_neg]
    rintro ⟨a, b⟩
    rcases h with c | c | c
    · omega
    · exact c a
    · exact b c
theorem lookF_go {os : List Ob} {K N : Int} {S : ByteArray} {O : Int} {n : Nat} {x y : Ob} (h0 : (fndV (ofKey K N S O x.es)).K = 0) (h1 : x.M.K ≠ 0) (h2 : tabOf os x.M.O = some y) : lookF os K N S O (n + 1) x = lookF os K N S O n y := by
  rw [lookF, if_pos ⟨h0, h1⟩, h2]

/-- How far the search is. -/
structure LI (w0 : World) (os : List Ob) (YK YN : Int) (YS : ByteArray) (YO : Int) (RES : V4) (k j tby : Nat) (mK mO VK VN : Int) (VS : ByteArray) (VO : Int) (wr : World) : Prop where
  k : k = 16 - j
  y : ∃ (ix : Nat) (y : Ob), os[ix]? = some y ∧ y.tb = some tby ∧ y.M.K = mK ∧ y.M.O = mO ∧ fndV (ofKey YK YN YS YO y.es) = ⟨VK, VN, VS, VO⟩ ∧ lookF os YK YN YS YO (16 - j) y = RES
  b : Below w0.heap.size w0 wr

set_option maxHeartbeats 4000000 in
theorem look_hv {w : World} {hb lim used : Nat} {R : Value} {os : List Ob} {Z : Nat → Prop} (h : Hv w hb lim used R os Z) (o K N : Int) (S : ByteArray) (O : Int) (hN : U64 N) (hS : S.size ≤ 9223372036854775807) :
    Calls Tryd.prog 17 #[.pointer (some ⟨hb, 0, none⟩), .int .i64 o, .agg #[.int .i64 K, .int .u64 N, .string S, .int .i64 O]] w fun e w' => e = .returned (lookV os o K N S O).val ∧ Below w.heap.size w w' := by
  have hb0 : Below w.heap.size w ((w.alloc (.cells #[.int .i64 K, .int .u64 N, .string S, .int .i64 O] 35)).alloc (.cells #[.int .i64 0, .int .u64 0, .string ⟨#[]⟩, .int .i64 0] 35)) := ((Below.refl _ _).alloc (Nat.le_refl _) _).alloc (by simp) _
  have HT := tableOf_hv (h.below hb0) o
  have HK : Hid (∀ w, Calls Tryd.prog 31 #[.agg #[.int .i64 K, .int .u64 N, .string S, .int .i64 O]] w fun e w' => e = .returned (.tuple #[.agg #[.int .i64 (yK K N), .int .u64 (yN K N), .string (yS K N S), .int .i64 (yO K N O)], .bool (kok K N)]) ∧ Below w.heap.size w w') := fun w => key_any K N S O w hN
  have HB : Hid (Below w.heap.size w ((w.alloc (.cells #[.int .i64 K, .int .u64 N, .string S, .int .i64 O] 35)).alloc (.cells #[.int .i64 0, .int .u64 0, .string ⟨#[]⟩, .int .i64 0] 35))) := hb0
  unfold lookV
  unfold ptrOf at HT
  cases hx : tabOf os o with
  | none =>
    rw [hx] at HT
    simp only [Option.bind_none] at HT
    clear h hx hb0
    generalize yK K N = YK at *
    generalize yN K N = YN at *
    generalize yS K N S = YS at *
    generalize yO K N O = YO at *
    generalize kok K N = ko at *
    go_enter Tryd.func17, Tryd.ntmps17
    go_wp2_with fail
    refine HT.mono ?_
    rintro e w1 ⟨rfl, rfl⟩
    clear HT
    go_wp2_with fail
    refine (HK.out _).mono ?_
    rintro e w1 ⟨rfl, hb1⟩
    have hc : ∀ i, w1.cell? ⟨w.heap.size + 1, i, none⟩ = ((w.alloc (.cells #[.int .i64 K, .int .u64 N, .string S, .int .i64 O] 35)).alloc (.cells #[.int .i64 0, .int .u64 0, .string ⟨#[]⟩, .int .i64 0] 35)).cell? ⟨w.heap.size + 1, i, none⟩ := fun i => hb1.cell (by simp)
    have z0 : w1.cell? ⟨w.heap.size + 1, 0, none⟩ = some (.int .i64 0) := by rw [hc]; go_simp
    have z1 : w1.cell? ⟨w.heap.size + 1, 1, none⟩ = some (.int .u64 0) := by rw [hc]; go_simp
    have z2 : w1.cell? ⟨w.heap.size + 1, 2, none⟩ = some (.string ⟨#[]⟩) := by rw [hc]; go_simp
    have z3 : w1.cell? ⟨w.heap.size + 1, 3, none⟩ = some (.int .i64 0) := by rw [hc]; go_simp
    have hf : ∀ i, w1.frozen? ⟨w.heap.size + 1, i, none⟩ = false := fun i => (hb1.frozen (by simp)).trans (by go_simp)
    have HB1 : Hid (Below w.heap.size w w1) := HB.out.trans (hb1.mono (by simp; omega))
    have hsz : w.heap.size + 1 < w1.heap.size := by have := hb1.size; simp at this; omega
    clear hb1 hc HB HK
    go_wp2
    exact bodyPost_ret (v := V0.val) (by simp [results, Tryd.results17, go_sem, V0, V4.val, vl4, z0, z1, z2, z3, hsz]) rfl ⟨rfl, (set41 HB1.out (by omega) _ _ _ _).alloc (by simp; omega) _⟩
  | some x =>
    obtain ⟨i, tb, ho, hi, ht⟩ := tabOf_some hx
    rw [hx] at HT
    rw [show (some x).bind Ob.ptr = some ⟨tb, 0, none⟩ by simp [Ob.ptr, ht]] at HT
    have HTV : Hid (∀ w', Below w.heap.size w w' → Tv w' tb x.X x.es x.M) := fun w' hb => (((h.below hb).ob i x hi).tab tb ht).2.1
    have HSY : Hid ((yS K N S).size ≤ 9223372036854775807) := by
      show (yS K N S).size ≤ _
      unfold yS nS
      split
      · split
        · exact hS
        · exact Nat.zero_le _
      · exact Nat.zero_le _
    simp only
    cases hko : kok K N with
    | false =>
      rw [if_neg (by decide)]
      rw [hko] at HK
      clear h hx hb0 HTV ho hi ht hko HSY
      generalize yK K N = YK at *
      generalize yN K N = YN at *
      generalize yS K N S = YS at *
      generalize yO K N O = YO at *
      go_enter Tryd.func17, Tryd.ntmps17
      go_wp2_with fail
      refine HT.mono ?_
      rintro e w1 ⟨rfl, rfl⟩
      clear HT
      go_wp2_with fail
      refine (HK.out _).mono ?_
      rintro e w1 ⟨rfl, hb1⟩
      have hc : ∀ i, w1.cell? ⟨w.heap.size + 1, i, none⟩ = ((w.alloc (.cells #[.int .i64 K, .int .u64 N, .string S, .int .i64 O] 35)).alloc (.cells #[.int .i64 0, .int .u64 0, .string ⟨#[]⟩, .int .i64 0] 35)).cell? ⟨w.heap.size + 1, i, none⟩ := fun i => hb1.cell (by simp)
      have z0 : w1.cell? ⟨w.heap.size + 1, 0, none⟩ = some (.int .i64 0) := by rw [hc]; go_simp
      have z1 : w1.cell? ⟨w.heap.size + 1, 1, none⟩ = some (.int .u64 0) := by rw [hc]; go_simp
      have z2 : w1.cell? ⟨w.heap.size + 1, 2, none⟩ = some (.string ⟨#[]⟩) := by rw [hc]; go_simp
      have z3 : w1.cell? ⟨w.heap.size + 1, 3, none⟩ = some (.int .i64 0) := by rw [hc]; go_simp
      have hf : ∀ i, w1.frozen? ⟨w.heap.size + 1, i, none⟩ = false := fun i => (hb1.frozen (by simp)).trans (by go_simp)
      have HB1 : Hid (Below w.heap.size w w1) := HB.out.trans (hb1.mono (by simp; omega))
      have hsz : w.heap.size + 1 < w1.heap.size := by have := hb1.size; simp at this; omega
      clear hb1 hc HB HK
      go_wp2
      exact bodyPost_ret (v := V0.val) (by simp [results, Tryd.results17, go_sem, V0, V4.val, vl4, z0, z1, z2, z3, hsz]) rfl ⟨rfl, (set41 HB1.out (by omega) _ _ _ _).alloc (by simp; omega) _⟩
    | true =>
      rw [if_pos rfl]
      rw [hko] at HK
      have HM : Hid (∀ (ix : Nat) (y : Ob) (tby : Nat) w', os[ix]? = some y → y.tb = some tby → Below w.heap.size w w' → w'.cell? ⟨tby, 0, none⟩ = some (.int .i64 y.M.K) ∧ w'.cell? ⟨tby, 3, none⟩ = some (.int .i64 y.M.O)) := fun ix y tby w' h1 h2 hb' => by
        have := (((h.below hb').ob ix y h1).tab tby h2).2.1.mt
        exact ⟨this.c0, this.c3⟩
      have HG : Hid (∀ (ix : Nat) (y : Ob) (tby : Nat) w', os[ix]? = some y → y.tb = some tby → Below w.heap.size w w' → Calls Tryd.prog 36 #[.pointer (some ⟨tby, 0, none⟩), .agg #[.int .i64 (yK K N), .int .u64 (yN K N), .string (yS K N S), .int .i64 (yO K N O)], .int .u64 (hZ (yK K N) (yN K N) (yS K N S) (yO K N O))] w' fun e w2 => e = .returned (.agg #[.int .i64 (fndV (ofKey (yK K N) (yN K N) (yS K N S) (yO K N O) y.es)).K, .int .u64 (fndV (ofKey (yK K N) (yN K N) (yS K N S) (yO K N O) y.es)).N, .string (fndV (ofKey (yK K N) (yN K N) (yS K N S) (yO K N O) y.es)).S, .int .i64 (fndV (ofKey (yK K N) (yN K N) (yS K N S) (yO K N O) y.es)).O]) ∧ Below w'.heap.size w' w2) := fun ix y tby w' h1 h2 hb' => tab_get (((h.below hb').ob ix y h1).tab tby h2).2.1 _ _ _ _
      have HH : Hid (∀ w', Calls Tryd.prog 37 #[.agg #[.int .i64 (yK K N), .int .u64 (yN K N), .string (yS K N S), .int .i64 (yO K N O)]] w' fun e w2 => e = .returned (.int .u64 (hZ (yK K N) (yN K N) (yS K N S) (yO K N O))) ∧ Below w'.heap.size w' w2) := fun w' => hash_any _ _ _ _ w' HSY.out
      have HNX : Hid (∀ (ix : Nat) (y : Ob), os[ix]? = some y → y.M.K ≠ 0 → ∃ (jx : Nat) (z : Ob) (tbz : Nat), os[jx]? = some z ∧ z.tb = some tbz ∧ tabOf os y.M.O = some z ∧ ∀ w', Below w.heap.size w w' → Calls Tryd.prog 30 #[.pointer (some ⟨hb, 0, none⟩), .int .i64 y.M.O] w' fun e w2 => e = .returned (.pointer (some ⟨tbz, 0, none⟩)) ∧ w2 = w') := fun ix y h1 h2 => by
        rcases h.mt ix y h1 with c | ⟨_, c2, z, c3, c4⟩
        · exact absurd c h2
        · obtain ⟨tbz, hz⟩ := Option.ne_none_iff_exists'.1 c4
          have e1 : y.M.O = (((y.M.O - 1).toNat : Nat) : Int) + 1 := by omega
          have e2 : tabOf os y.M.O = some z := by rw [e1]; exact tabOf_of c3 hz
          refine ⟨_, z, tbz, c3, hz, e2, fun w' hb' => ?_⟩
          have := tableOf_hv (h.below hb') y.M.O
          rw [show ptrOf os y.M.O = some ⟨tbz, 0, none⟩ by unfold ptrOf; rw [e2]; simp [Ob.ptr, hz]] at this
          exact this
      have HX : Hid (os[i]? = some x ∧ x.tb = some tb) := ⟨hi, ht⟩
      clear h hx hb0 HTV ho hi ht hko HSY
      obtain ⟨RES, hres⟩ : ∃ RES, RES = lookF os (yK K N) (yN K N) (yS K N S) (yO K N O) 16 x := ⟨_, rfl⟩
      have HR : Hid (lookF os (yK K N) (yN K N) (yS K N S) (yO K N O) 16 x = RES) := hres.symm
      rw [← hres]
      clear hres
      generalize hZ (yK K N) (yN K N) (yS K N S) (yO K N O) = HZ at *
      generalize yK K N = YK at *
      generalize yN K N = YN at *
      generalize yS K N S = YS at *
      generalize yO K N O = YO at *
      go_enter Tryd.func17, Tryd.ntmps17
      go_wp2_with fail
      refine HT.mono ?_
      rintro e w1 ⟨rfl, rfl⟩
      clear HT
      go_wp2_with fail
      refine (HK.out _).mono ?_
      rintro e w1 ⟨rfl, hb1⟩
      have HB1 : Hid (Below ((w.alloc (.cells #[.int .i64 K, .int .u64 N, .string S, .int .i64 O] 35)).alloc (.cells #[.int .i64 0, .int .u64 0, .string ⟨#[]⟩, .int .i64 0] 35)).heap.size ((w.alloc (.cells #[.int .i64 K, .int .u64 N, .string S, .int .i64 O] 35)).alloc (.cells #[.int .i64 0, .int .u64 0, .string ⟨#[]⟩, .int .i64 0] 35)) w1) := hb1
      have hsz : w.heap.size + 1 < w1.heap.size := by have := hb1.size; simp at this; omega
      clear hb1 HK
      go_wp2_with fail
      refine (HH.out _).mono ?_
      rintro e w2 ⟨rfl, hb2⟩
      obtain ⟨p0, p1, p2, p3⟩ := keep4 (b := w1.heap.size) (v0 := .int .i64 YK) (v1 := .int .u64 YN) (v2 := .string YS) (v3 := .int .i64 YO) ⟨by go_simp, by go_simp, by go_simp, by go_simp⟩ hb2
      have hs2 : w1.heap.size < w2.heap.size := by have := hb2.size; simp at this; omega
      have HB2 : Hid (Below ((w.alloc (.cells #[.int .i64 K, .int .u64 N, .string S, .int .i64 O] 35)).alloc (.cells #[.int .i64 0, .int .u64 0, .string ⟨#[]⟩, .int .i64 0] 35)).heap.size ((w.alloc (.cells #[.int .i64 K, .int .u64 N, .string S, .int .i64 O] 35)).alloc (.cells #[.int .i64 0, .int .u64 0, .string ⟨#[]⟩, .int .i64 0] 35)) w2) := (HB1.out.alloc (by have := HB1.out.size; simp at this ⊢; omega) _).trans (hb2.mono (by have := HB1.out.size; simp at this ⊢; omega))
      clear hb2 HH HB1
      go_wp2_with fail
      refine (HG.out i x tb _ HX.out.1 HX.out.2 (HB.out.trans (HB2.out.mono (by simp; omega)))).mono ?_
      rintro e w3 ⟨rfl, hb3⟩
      obtain ⟨p0', p1', p2', p3'⟩ := keep4 ⟨p0, p1, p2, p3⟩ hb3
      have HB3 : Hid (Below ((w.alloc (.cells #[.int .i64 K, .int .u64 N, .string S, .int .i64 O] 35)).alloc (.cells #[.int .i64 0, .int .u64 0, .string ⟨#[]⟩, .int .i64 0] 35)).heap.size ((w.alloc (.cells #[.int .i64 K, .int .u64 N, .string S, .int .i64 O] 35)).alloc (.cells #[.int .i64 0, .int .u64 0, .string ⟨#[]⟩, .int .i64 0] 35)) w3) := HB2.out.trans (hb3.mono HB2.out.size)
      have hs3 : w1.heap.size < w3.heap.size := by have := hb3.size; omega
      clear hb3 HB2 p0 p1 p2 p3
      go_wp2_with fail
      go_loopg [7, 12] 16 (fun k p q wr => ∃ (j tby : Nat) (mK mO VK VN : Int) (VS : ByteArray) (VO : Int), p = .pointer (some ⟨tby, 0, none⟩) ∧ q = .int .i64 (j : Int) ∧ j ≤ 16 ∧ (wr.cell? ⟨w1.heap.size, 0, none⟩ = some (.int .i64 YK) ∧ wr.cell? ⟨w1.heap.size, 1, none⟩ = some (.int .u64 YN) ∧ wr.cell? ⟨w1.heap.size, 2, none⟩ = some (.string YS) ∧ wr.cell? ⟨w1.heap.size, 3, none⟩ = some (.int .i64 YO)) ∧
        (wr.cell? ⟨w3.heap.size, 0, none⟩ = some (.int .i64 VK) ∧ wr.cell? ⟨w3.heap.size, 1, none⟩ = some (.int .u64 VN) ∧ wr.cell? ⟨w3.heap.size, 2, none⟩ = some (.string VS) ∧ wr.cell? ⟨w3.heap.size, 3, none⟩ = some (.int .i64 VO)) ∧ (∀ i, wr.frozen? ⟨w3.heap.size, i, none⟩ = false) ∧ wr.cell? ⟨tby, 0, none⟩ = some (.int .i64 mK) ∧ wr.cell? ⟨tby, 3, none⟩ = some (.int .i64 mO) ∧
        Hid (LI ((w.alloc (.cells #[.int .i64 K, .int .u64 N, .string S, .int .i64 O] 35)).alloc (.cells #[.int .i64 0, .int .u64 0, .string ⟨#[]⟩, .int .i64 0] 35)) os YK YN YS YO RES k j tby mK mO VK VN VS VO wr))
      case atStart =>
        have hm := HM.out i x tb (w3.alloc (.cells #[.int .i64 (fndV (ofKey YK YN YS YO x.es)).K, .int .u64 (fndV (ofKey YK YN YS YO x.es)).N, .string (fndV (ofKey YK YN YS YO x.es)).S, .int .i64 (fndV (ofKey YK YN YS YO x.es)).O] 35)) HX.out.1 HX.out.2 (HB.out.trans ((HB3.out.alloc HB3.out.size _).mono (by simp; omega)))
        exact ⟨0, tb, x.M.K, x.M.O, (fndV (ofKey YK YN YS YO x.es)).K, (fndV (ofKey YK YN YS YO x.es)).N, (fndV (ofKey YK YN YS YO x.es)).S, (fndV (ofKey YK YN YS YO x.es)).O, rfl, rfl, by omega, ⟨by go_simp, by go_simp, by go_simp, by go_simp⟩, ⟨by go_simp, by go_simp, by go_simp, by go_simp⟩, fun i => by go_simp, hm.1, hm.2, ⟨rfl, ⟨i, x, HX.out.1, HX.out.2, rfl, rfl, rfl, HR.out⟩, HB3.out.alloc HB3.out.size _⟩⟩
      case round =>
        obtain ⟨j, tby, mK, mO, VK, VN, VS, VO, rfl, rfl, hj, ⟨k0, k1, k2, k3⟩, ⟨v0, v1, v2, v3⟩, vf, m0, m3, HI⟩ := hrel
        clear p0' p1' p2' p3'
        by_cases c1 : j < 16
        · by_cases c2 : VK = 0
          · by_cases c3 : mK = 0
            · have c1i : (j : Int) < 16 := by omega
              subst c3
              subst c2
              have HBe : Hid (Below w.heap.size w wr) := HB.out.trans (HI.out.b.mono (by simp; omega))
              have hre : RES = ⟨0, VN, VS, VO⟩ := by
                obtain ⟨ix, y, hy, hty, hmK, hmO, hV, hL⟩ := HI.out.y
                rw [← hL, ← hV]
                exact lookF_stop (by first | exact Or.inl (by omega) | exact Or.inr (Or.inl (by rw [hV]; assumption)) | exact Or.inr (Or.inr hmK))
              obtain ⟨t0, t1, t2, t3⟩ := keep4 (W := ((w.alloc (.cells #[.int .i64 K, .int .u64 N, .string S, .int .i64 O] 35)).alloc (.cells #[.int .i64 0, .int .u64 0, .string ⟨#[]⟩, .int .i64 0] 35))) (b := w.heap.size + 1) (v0 := .int .i64 0) (v1 := .int .u64 0) (v2 := .string ⟨#[]⟩) (v3 := .int .i64 0) ⟨by go_simp, by go_simp, by go_simp, by go_simp⟩ HI.out.b
              have hf3 : ∀ i, wr.frozen? ⟨w.heap.size + 1, i, none⟩ = false := fun i => (HI.out.b.frozen (by simp)).trans (by go_simp)
              subst hre
              clear HI HNX HG HM HR HX HB3 HB m3
              go_wp2
              exact bodyPost_ret (v := (⟨0, VN, VS, VO⟩ : V4).val) (by simp [results, Tryd.results17, go_sem, V4.val, vl4, t0, t1, t2, t3]) rfl ⟨rfl, set41 HBe.out (by omega) _ _ _ _⟩
            · have c1i : (j : Int) < 16 := by omega
              subst c2
              obtain ⟨ix, y, hy, hty, hmK, hmO, hV, hL⟩ := HI.out.y
              obtain ⟨jx, z, tbz, hz, htz, htab, hcall⟩ := HNX.out ix y hy (by rw [hmK]; exact c3)
              rw [hmO] at hcall htab
              have hL2 : lookF os YK YN YS YO (16 - (j + 1)) z = RES := by
                rw [← hL, show 16 - j = (16 - (j + 1)) + 1 by omega]
                exact (lookF_go (by rw [hV]) (by rw [hmK]; exact c3) (by rw [hmO]; exact htab)).symm
              have HBw : Hid (Below w.heap.size w wr) := HB.out.trans (HI.out.b.mono (by simp; omega))
              have HC := hcall wr HBw.out
              have HGz := HG.out jx z tbz wr hz htz HBw.out
              have HZZ : Hid (os[jx]? = some z ∧ z.tb = some tbz ∧ lookF os YK YN YS YO (16 - (j + 1)) z = RES) := ⟨hz, htz, hL2⟩
              have hsr : w3.heap.size < wr.heap.size := World.block_lt_of_cell? wr ⟨w3.heap.size, 0, none⟩ v0
              have hK : Hid (gk = 16 - j) := HI.out.k
              have HIb : Hid (Below ((w.alloc (.cells #[.int .i64 K, .int .u64 N, .string S, .int .i64 O] 35)).alloc (.cells #[.int .i64 0, .int .u64 0, .string ⟨#[]⟩, .int .i64 0] 35)).heap.size ((w.alloc (.cells #[.int .i64 K, .int .u64 N, .string S, .int .i64 O] 35)).alloc (.cells #[.int .i64 0, .int .u64 0, .string ⟨#[]⟩, .int .i64 0] 35)) wr) := HI.out.b
              clear hy hty hmK hmO hV hL hz htz htab hcall hL2 HI HNX HR HX
              go_wp2_with fail
              refine HC.mono ?_
              rintro e w4 ⟨rfl, rfl⟩
              clear HC
              go_wp2_with fail
              refine HGz.mono ?_
              rintro e w5 ⟨rfl, hb5⟩
              obtain ⟨k0', k1', k2', k3'⟩ := keep4 ⟨k0, k1, k2, k3⟩ hb5
              obtain ⟨v0', v1', v2', v3'⟩ := keep4 ⟨v0, v1, v2, v3⟩ hb5
              have vf' : ∀ i, w5.frozen? ⟨w3.heap.size, i, none⟩ = false := fun i => (hb5.frozen hsr).trans (vf i)
              have HB5 : Hid (Below ((w.alloc (.cells #[.int .i64 K, .int .u64 N, .string S, .int .i64 O] 35)).alloc (.cells #[.int .i64 0, .int .u64 0, .string ⟨#[]⟩, .int .i64 0] 35)).heap.size ((w.alloc (.cells #[.int .i64 K, .int .u64 N, .string S, .int .i64 O] 35)).alloc (.cells #[.int .i64 0, .int .u64 0, .string ⟨#[]⟩, .int .i64 0] 35)) w5) := HIb.out.trans (hb5.mono HIb.out.size)
              have hne1 : ¬ w1.heap.size = w3.heap.size := by omega
              clear hb5 HGz HIb k0 k1 k2 k3 v0 v1 v2 v3 vf m0 m3
              go_wp2_with fail
              go_roundg (16 - (j + 1))
              case measure => have := hK.out; omega
              case rel =>
                have hb6 := set41 HB5.out (b := w3.heap.size) (by have := HB3.out.size; omega) (.int .i64 (fndV (ofKey YK YN YS YO z.es)).K) (.int .u64 (fndV (ofKey YK YN YS YO z.es)).N) (.string (fndV (ofKey YK YN YS YO z.es)).S) (.int .i64 (fndV (ofKey YK YN YS YO z.es)).O)
                have hm := HM.out jx z tbz _ HZZ.out.1 HZZ.out.2.1 (HB.out.trans (hb6.mono (by simp; omega)))
                exact ⟨j + 1, tbz, z.M.K, z.M.O, (fndV (ofKey YK YN YS YO z.es)).K, (fndV (ofKey YK YN YS YO z.es)).N, (fndV (ofKey YK YN YS YO z.es)).S, (fndV (ofKey YK YN YS YO z.es)).O, rfl, by go_num, by omega, keep4' ⟨k0', k1', k2', k3'⟩ hne1, ⟨by go_simp, by go_simp, by go_simp, by go_simp⟩, fun i => by go_simp, hm.1, hm.2, ⟨rfl, ⟨jx, z, HZZ.out.1, HZZ.out.2.1, rfl, rfl, rfl, HZZ.out.2.2⟩, hb6⟩⟩
          · have c1i : (j : Int) < 16 := by omega
            have c2i : ¬ (VK = 0) := c2
            have HBe : Hid (Below w.heap.size w wr) := HB.out.trans (HI.out.b.mono (by simp; omega))
            have hre : RES = ⟨VK, VN, VS, VO⟩ := by
              obtain ⟨ix, y, hy, hty, hmK, hmO, hV, hL⟩ := HI.out.y
              rw [← hL, ← hV]
              exact lookF_stop (by first | exact Or.inl (by omega) | exact Or.inr (Or.inl (by rw [hV]; assumption)) | exact Or.inr (Or.inr hmK))
            obtain ⟨t0, t1, t2, t3⟩ := keep4 (W := ((w.alloc (.cells #[.int .i64 K, .int .u64 N, .string S, .int .i64 O] 35)).alloc (.cells #[.int .i64 0, .int .u64 0, .string ⟨#[]⟩, .int .i64 0] 35))) (b := w.heap.size + 1) (v0 := .int .i64 0) (v1 := .int .u64 0) (v2 := .string ⟨#[]⟩) (v3 := .int .i64 0) ⟨by go_simp, by go_simp, by go_simp, by go_simp⟩ HI.out.b
            have hf3 : ∀ i, wr.frozen? ⟨w.heap.size + 1, i, none⟩ = false := fun i => (HI.out.b.frozen (by simp)).trans (by go_simp)
            subst hre
            clear HI HNX HG HM HR HX HB3 HB m3
            go_wp2
            exact bodyPost_ret (v := (⟨VK, VN, VS, VO⟩ : V4).val) (by simp [results, Tryd.results17, go_sem, V4.val, vl4, t0, t1, t2, t3]) rfl ⟨rfl, set41 HBe.out (by omega) _ _ _ _⟩
        · have c1i : ¬ (j : Int) < 16 := by omega
          have HBe : Hid (Below w.heap.size w wr) := HB.out.trans (HI.out.b.mono (by simp; omega))
          have hre : RES = ⟨VK, VN, VS, VO⟩ := by
            obtain ⟨ix, y, hy, hty, hmK, hmO, hV, hL⟩ := HI.out.y
            rw [← hL, ← hV]
            exact lookF_stop (by first | exact Or.inl (by omega) | exact Or.inr (Or.inl (by rw [hV]; assumption)) | exact Or.inr (Or.inr hmK))
          obtain ⟨t0, t1, t2, t3⟩ := keep4 (W := ((w.alloc (.cells #[.int .i64 K, .int .u64 N, .string S, .int .i64 O] 35)).alloc (.cells #[.int .i64 0, .int .u64 0, .string ⟨#[]⟩, .int .i64 0] 35))) (b := w.heap.size + 1) (v0 := .int .i64 0) (v1 := .int .u64 0) (v2 := .string ⟨#[]⟩) (v3 := .int .i64 0) ⟨by go_simp, by go_simp, by go_simp, by go_simp⟩ HI.out.b
          have hf3 : ∀ i, wr.frozen? ⟨w.heap.size + 1, i, none⟩ = false := fun i => (HI.out.b.frozen (by simp)).trans (by go_simp)
          subst hre
          clear HI HNX HG HM HR HX HB3 HB m3
          go_wp2
          exact bodyPost_ret (v := (⟨VK, VN, VS, VO⟩ : V4).val) (by simp [results, Tryd.results17, go_sem, V4.val, vl4, t0, t1, t2, t3]) rfl ⟨rfl, set41 HBe.out (by omega) _ _ _ _⟩

end Go.Proofs.YtjlcdpablnnplaaDoor

/-
  Layer 9: what a table's size says, whole; the numbers 1 and 5; the reference's Number.
-/
namespace Go.Proofs.YtjlcdpablnnplaaDoor
set_option maxRecDepth 100000
open Go.RowKit Flo

/-- An entry's key is the whole number z. -/
def numE (e : En) (z : Int) : Prop := e.K = 3 ∧ toB e.N = true ∧ toI e.N = z
theorem pigeon (f : En → Int) : ∀ (k : Nat) (l : List En), (∀ p, p < k → ∃ e ∈ l, f e = (p : Int)) → k ≤ l.length
  | 0, _, _ => Nat.zero_le _
  | k + 1, l, h => by
    obtain ⟨e, he, hf⟩ := h k (by omega)
    have h1 := pigeon f k (l.filter fun x => decide (f x ≠ (k : Int))) (fun p hp => by
      obtain ⟨e', he', hf'⟩ := h p (by omega)
      exact ⟨e', List.mem_filter.2 ⟨he', decide_eq_true (by omega)⟩, hf'⟩)
    have h2 : (l.filter fun x => decide (f x ≠ (k : Int))).length < l.length := by
      refine Nat.lt_of_le_of_ne (List.length_filter_le _ _) (fun c => ?_)
      have h3 := List.length_filter_eq_length_iff.1 c e he
      exact of_decide_eq_true h3 hf
    omega
theorem Tv.size2 {w : World} {tb : Nat} {X : Nat → Prop} {es : List En} {M : V4} (h : Tv w tb X es M) :
    ∃ s : Nat, w.cell? ⟨tb, 9, none⟩ = some (.int .i64 (s : Int)) ∧ (∀ p, p < s → ∃ e ∈ es, numE e ((p : Int) + 1)) ∧ ∀ e ∈ es, ¬ numE e ((s : Int) + 1) := by
  rcases h.bod with ⟨e0, c7, c8, c9⟩ | ⟨g, n, c, m, cs, W, s, t⟩
  · exact ⟨0, c9, fun p hp => by omega, fun e he => by rw [e0] at he; cases he⟩
  · have h1 : ∀ p, p < s → ∃ e ∈ es, numE e ((p : Int) + 1) := fun p hp => by
      obtain ⟨e, he, hb, hp2⟩ := t.sz.all p hp
      have hb2 := hb
      unfold bitB at hb2
      have h2 := of_decide_eq_true hb2
      refine ⟨e, he, h2.1, h2.2.1, ?_⟩
      unfold bitN at hp2
      rw [if_pos hb] at hp2
      omega
    refine ⟨s, t.kc.size, h1, fun e he hn => ?_⟩
    by_cases c : s < m * 64
    · refine t.sz.gap c ⟨e, he, ?_, ?_⟩
      · unfold bitB
        exact decide_eq_true ⟨hn.1, hn.2.1, by rw [hn.2.2]; omega, by rw [hn.2.2]; omega⟩
      · have hb : bitB m e.K e.N = true := by
          unfold bitB
          exact decide_eq_true ⟨hn.1, hn.2.1, by rw [hn.2.2]; omega, by rw [hn.2.2]; omega⟩
        unfold bitN
        rw [if_pos hb, hn.2.2]
        omega
    · have hfit := t.sz.fit
      have hfull := t.full
      have hwords := t.words
      have := pigeon (fun e => toI e.N - 1) (s + 1) es (fun p hp => by
        by_cases d : p = s
        · exact ⟨e, he, by simp only [hn.2.2]; omega⟩
        · obtain ⟨e', he', hn'⟩ := h1 p (by omega)
          exact ⟨e', he', by simp only [hn'.2.2]; omega⟩)
      omega

theorem one_is : fromZ 1 = 4607182418800017408 := by kernel_rfl
theorem five_is : fromZ 5 = 4617315517961601024 := by kernel_rfl
theorem one_whole : toB 4607182418800017408 = true ∧ toI 4607182418800017408 = 1 := ⟨by kernel_rfl, by kernel_rfl⟩
theorem one_key : kok 3 4607182418800017408 = true ∧ yK 3 4607182418800017408 = 3 ∧ yN 3 4607182418800017408 = 4607182418800017408 := ⟨by kernel_rfl, by kernel_rfl, by kernel_rfl⟩
theorem five_norm : nN 3 4617315517961601024 = 4617315517961601024 := by kernel_rfl

theorem canon_1 : canonZ (fromZ 1) = 4607182418800017408 := by kernel_rfl
theorem canon_5 : canonZ (fromZ 5) = 4617315517961601024 := by kernel_rfl

set_option maxHeartbeats 1000000 in
theorem refNum_any (N : Int) (w : World) (hN : U64 N) :
    Calls Tryd.prog 34 #[.int .u64 N] w fun e w' => e = .returned (.agg #[.int .i64 3, .int .u64 (canonZ N), .string ⟨#[]⟩, .int .i64 0]) ∧ Below w.heap.size w w' := by
  have HB : Hid (Below w.heap.size w (w.alloc (.cells #[.int .i64 0, .int .u64 0, .string ⟨#[]⟩, .int .i64 0] 35))) := (Below.refl _ _).alloc (Nat.le_refl _) _
  have HC := fun w => refCanon_any N w hN
  generalize canonZ N = M at *
  go_enter Tryd.func34, Tryd.ntmps34
  go_wp2_with fail
  refine (HC _).mono ?_
  rintro e w1 ⟨rfl, rfl⟩
  go_wp2
  exact bodyPost_ret (v := .agg #[.int .i64 3, .int .u64 M, .string ⟨#[]⟩, .int .i64 0]) (by simp [results, Tryd.results34, go_sem]) rfl ⟨rfl, by first | exact set41 HB.out (Nat.le_refl _) _ _ _ _ | exact (Below.refl _ _).alloc (Nat.le_refl _) _⟩
set_option maxHeartbeats 1000000 in
theorem number_any (n : Int) (w : World) (h0 : -9223372036854775808 ≤ n) (h1 : n ≤ 9223372036854775807) :
    Calls Tryd.prog 13 #[.int .i64 n] w fun e w' => e = .returned (.agg #[.int .i64 3, .int .u64 (canonZ (fromZ n)), .string ⟨#[]⟩, .int .i64 0]) ∧ Below w.heap.size w w' := by
  have HF : Hid _ := fun w => refFromInt_any n w h0 h1
  have HN : Hid _ := fun w => refNum_any (fromZ n) w (fromZ_u64 n)
  generalize canonZ (fromZ n) = M at *
  generalize fromZ n = R at *
  have HB : Hid (Below w.heap.size w (w.alloc (.cells #[.int .i64 0, .int .u64 0, .string ⟨#[]⟩, .int .i64 0] 35))) := (Below.refl _ _).alloc (Nat.le_refl _) _
  go_enter Tryd.func13, Tryd.ntmps13
  go_wp2_with fail
  refine (HF.out _).mono ?_
  rintro e w1 ⟨rfl, hb1⟩
  have HB1 : Hid (Below w.heap.size w w1) := HB.out.trans (hb1.mono (by simp))
  obtain ⟨t0, t1, t2, t3⟩ := keep4 (b := w.heap.size) (v0 := .int .i64 0) (v1 := .int .u64 0) (v2 := .string ⟨#[]⟩) (v3 := .int .i64 0) ⟨by go_simp, by go_simp, by go_simp, by go_simp⟩ hb1
  have hf1 : ∀ i, w1.frozen? ⟨w.heap.size, i, none⟩ = false := fun i => (hb1.frozen (by simp)).trans (by go_simp)
  clear hb1 HF HB
  go_wp2_with fail
  refine (HN.out _).mono ?_
  rintro e w2 ⟨rfl, hb2⟩
  have hs : w.heap.size < w1.heap.size := World.block_lt_of_cell? w1 ⟨w.heap.size, 0, none⟩ t0
  obtain ⟨t0, t1, t2, t3⟩ := keep4 ⟨t0, t1, t2, t3⟩ hb2
  have hf2 : ∀ i, w2.frozen? ⟨w.heap.size, i, none⟩ = false := fun i => (hb2.frozen hs).trans (hf1 i)
  have HB2 : Hid (Below w.heap.size w w2) := HB1.out.trans (hb2.mono (Nat.le_of_lt hs))
  clear hb2 HN hf1
  go_wp2
  exact bodyPost_ret (v := .agg #[.int .i64 3, .int .u64 M, .string ⟨#[]⟩, .int .i64 0]) (by simp [results, Tryd.results13, go_sem, t0, t1, t2, t3]) rfl ⟨rfl, set41 HB2.out (Nat.le_refl _) _ _ _ _⟩

end Go.Proofs.YtjlcdpablnnplaaDoor

/-
  Layer 9: the law's lives.
-/
namespace Go.Proofs.YtjlcdpablnnplaaDoor
set_option maxRecDepth 100000
open Go.RowKit Flo

/-- The key 1 with the value 5. -/
def liveE (b : Nat) : En := ⟨b, 3, 4607182418800017408, ⟨#[]⟩, 0, hN 3 4607182418800017408 ⟨#[]⟩ 0, 3, 4617315517961601024, ⟨#[]⟩, 0⟩
theorem live_set {w : World} {hb : Nat} {R : Value} {Z : Nat → Prop} {t : Nat} (h : Hv w hb 10 1 R ([] ++ [tabO t]) Z) :
    Calls Tryd.prog 12 #[.pointer (some ⟨hb, 0, none⟩), .int .i64 1, .agg #[.int .i64 3, .int .u64 4607182418800017408, .string ⟨#[]⟩, .int .i64 0], .agg #[.int .i64 3, .int .u64 4617315517961601024, .string ⟨#[]⟩, .int .i64 0]] w fun e w' => e = .returned (.int .i64 0) ∧
      (∃ Z' b X', Hv w' hb 10 2 R [{ tabO t with es := [liveE b], X := X' }] Z') ∧ Wx Z w w' := by
  refine (Set_new h (i := 0) (x := tabO t) (tb := t) rfl rfl 1 rfl 3 4607182418800017408 ⟨#[]⟩ 0 3 4617315517961601024 ⟨#[]⟩ 0 ⟨by decide, by decide⟩ ⟨by decide, by decide⟩ (by decide) one_key.1 rfl (by decide)).mono ?_
  rintro e w' ⟨rfl, hs⟩
  obtain ⟨b, X', h1, h2⟩ := hs.2 (by decide)
  refine ⟨rfl, ⟨Zn Z w.heap.size w'.heap.size, b, X', ?_⟩, h2⟩
  rw [one_key.2.1, one_key.2.2, five_norm] at h1
  exact h1
theorem live_get {w : World} {hb : Nat} {R : Value} {Z : Nat → Prop} {t b : Nat} {X' : Nat → Prop} (h : Hv w hb 10 2 R [{ tabO t with es := [liveE b], X := X' }] Z) :
    Calls Tryd.prog 16 #[.pointer (some ⟨hb, 0, none⟩), .int .i64 1, .agg #[.int .i64 3, .int .u64 4607182418800017408, .string ⟨#[]⟩, .int .i64 0]] w fun e w' => e = .returned (.agg #[.int .i64 3, .int .u64 4617315517961601024, .string ⟨#[]⟩, .int .i64 0]) ∧ Below w.heap.size w w' := by
  have hg := get_hv h 1 3 4607182418800017408 ⟨#[]⟩ 0 ⟨by decide, by decide⟩ (by decide)
  have e : getV [{ tabO t with es := [liveE b], X := X' }] 1 3 4607182418800017408 ⟨#[]⟩ 0 = ⟨3, 4617315517961601024, ⟨#[]⟩, 0⟩ := by
    unfold getV
    rw [show tabOf [{ tabO t with es := [liveE b], X := X' }] 1 = some { tabO t with es := [liveE b], X := X' } from rfl]
    simp only
    rw [if_pos one_key.1, one_key.2.1, one_key.2.2]
    rfl
  rw [e] at hg
  exact hg
theorem live_size {w : World} {hb : Nat} {R : Value} {Z : Nat → Prop} {t b : Nat} {X' : Nat → Prop} (h : Hv w hb 10 2 R [{ tabO t with es := [liveE b], X := X' }] Z) :
    Calls Tryd.prog 15 #[.pointer (some ⟨hb, 0, none⟩), .int .i64 1] w fun e w' => e = .returned (.int .i64 1) ∧ w' = w := by
  refine (size_hv h 1).mono ?_
  rintro e w' ⟨rfl, s, rfl, hm⟩
  rw [show tabOf [{ tabO t with es := [liveE b], X := X' }] 1 = some { tabO t with es := [liveE b], X := X' } from rfl] at hm
  obtain ⟨tb, ht, hc⟩ := hm
  have ht2 : t = tb := Option.some.inj ht
  subst ht2
  obtain ⟨s2, h1, h2, h3⟩ := ((h.ob 0 _ rfl).tab t rfl).2.1.size2
  have hs : s = s2 := by
    have := hc.symm.trans h1
    injection this with this
    injection this with _ this
    omega
  subst hs
  refine ⟨?_, rfl⟩
  have hone : numE (liveE b) 1 := ⟨rfl, one_whole.1, one_whole.2⟩
  have hlt : s < 2 := by
    rcases Nat.lt_or_ge s 2 with c | c
    · exact c
    · obtain ⟨e, he, hn⟩ := h2 1 (by omega)
      rw [List.mem_singleton.1 he] at hn
      have := hn.2.2.symm.trans hone.2.2
      simp at this
  have hgt : s ≠ 0 := fun c => by
    subst c
    exact h3 (liveE b) (List.mem_singleton.2 rfl) hone
  rw [show s = 1 by omega]
  rfl

set_option maxHeartbeats 4000000 in
theorem hlives_any (w : World) (db : Db w) : Calls Tryd.prog 10 #[] w fun e w' => e = .returned (.bool true) ∧ Below w.heap.size w w' := by
  have H1 := hnew_any 10 w (by decide) db
  have HN1 : Hid (∀ w, Calls Tryd.prog 13 #[.int .i64 1] w fun e w' => e = .returned (.agg #[.int .i64 3, .int .u64 4607182418800017408, .string ⟨#[]⟩, .int .i64 0]) ∧ Below w.heap.size w w') := fun w => by
    have := number_any 1 w (by decide) (by decide)
    rw [canon_1] at this
    exact this
  have HN5 : Hid (∀ w, Calls Tryd.prog 13 #[.int .i64 5] w fun e w' => e = .returned (.agg #[.int .i64 3, .int .u64 4617315517961601024, .string ⟨#[]⟩, .int .i64 0]) ∧ Below w.heap.size w w') := fun w => by
    have := number_any 5 w (by decide) (by decide)
    rw [canon_5] at this
    exact this
  go_enter Tryd.func10, Tryd.ntmps10
  go_wp2_with fail
  refine H1.mono ?_
  rintro e w1 ⟨rfl, hv1, hb1⟩
  have HT := table_hv hv1 (by decide)
  have HB1 : Hid (Below w.heap.size w w1) := hb1
  clear H1 hv1 hb1
  go_wp2_with fail
  refine HT.mono ?_
  rintro e w2 ⟨rfl, R, Z, hv2, hx2, hz2⟩
  have HB2 : Hid (Below w.heap.size w w2) := HB1.out.trans (hx2.below (fun k hk => by rw [hk]; exact Nat.le_refl _) HB1.out.size)
  have HV2 : Hid (Hv w2 w.heap.size 10 1 R ([] ++ [tabO w1.heap.size]) Z) := hv2
  have HZ2 : Hid (∀ k, Z k → w.heap.size ≤ k) := fun k hk => by
    rcases hz2 k hk with c | c
    · rw [c]; exact Nat.le_refl _
    · have := HB1.out.size; omega
  clear HT hv2 hx2 hz2 HB1
  go_wp2_with fail
  refine (HN1.out _).mono ?_
  rintro e w3 ⟨rfl, hb3⟩
  have HB3 : Hid (Below w2.heap.size w2 w3) := hb3
  clear hb3
  go_wp2_with fail
  refine (HN5.out _).mono ?_
  rintro e w4 ⟨rfl, hb4⟩
  have HS := live_set ((HV2.out.below HB3.out).below hb4)
  have HB4 : Hid (Below w.heap.size w w4) := (HB2.out.trans (HB3.out.mono HB2.out.size)).trans (hb4.mono (by have := HB2.out.size; have := HB3.out.size; omega))
  clear hb4 HB3 HB2 HV2
  go_wp2_with fail
  refine HS.mono ?_
  rintro e w5 ⟨rfl, ⟨Z5, b, X', hv5⟩, hx5⟩
  have HB5 : Hid (Below w.heap.size w w5) := HB4.out.trans (hx5.below HZ2.out HB4.out.size)
  have HV5 : Hid (Hv w5 w.heap.size 10 2 R [{ tabO w1.heap.size with es := [liveE b], X := X' }] Z5) := hv5
  clear hv5 hx5 HS HB4 HZ2
  go_wp2_with fail
  refine (HN1.out _).mono ?_
  rintro e w6 ⟨rfl, hb6⟩
  have HV6 : Hid (Hv w6 w.heap.size 10 2 R [{ tabO w1.heap.size with es := [liveE b], X := X' }] Z5) := HV5.out.below hb6
  have HB6 : Hid (Below w.heap.size w w6) := HB5.out.trans (hb6.mono HB5.out.size)
  have HG := live_get HV6.out
  clear hb6 HV5 HB5
  go_wp2_with fail
  refine HG.mono ?_
  rintro e w7 ⟨rfl, hb7⟩
  have HV7 : Hid (Hv w7 w.heap.size 10 2 R [{ tabO w1.heap.size with es := [liveE b], X := X' }] Z5) := HV6.out.below hb7
  have HB7 : Hid (Below w.heap.size w w7) := HB6.out.trans (hb7.mono HB6.out.size)
  clear hb7 HV6 HB6 HG
  go_wp2_with fail
  refine (HN5.out _).mono ?_
  rintro e w8 ⟨rfl, hb8⟩
  have HV8 : Hid (Hv w8 w.heap.size 10 2 R [{ tabO w1.heap.size with es := [liveE b], X := X' }] Z5) := HV7.out.below hb8
  have HB8 : Hid (Below w.heap.size w w8) := HB7.out.trans (hb8.mono HB7.out.size)
  have HSz := live_size HV8.out
  have HU := used_hv HV8.out
  clear hb8 HV7 HB7
  go_wp2_with fail
  refine HSz.mono ?_
  rintro e w9 ⟨rfl, rfl⟩
  clear HSz
  go_wp2_with fail
  refine HU.mono ?_
  rintro e w9 ⟨rfl, rfl⟩
  clear HU
  go_wp2
  go_ret
  exact ⟨rfl, HB8.out⟩

end Go.Proofs.YtjlcdpablnnplaaDoor

/-
  Layer 9: Set into a table that has no key.
-/
namespace Go.Proofs.YtjlcdpablnnplaaDoor
set_option maxRecDepth 100000
open Go.RowKit Flo

theorem set_same9 {os : List Ob} {i : Nat} {x : Ob} (h : os[i]? = some x) : os.set i x = os := by
  apply List.ext_getElem?
  intro j
  rw [List.getElem?_set]
  by_cases c : i = j
  · subst c
    rw [if_pos rfl, h]
    by_cases d : i < os.length
    · rw [if_pos d]
    · rw [List.getElem?_eq_none (by omega)] at h; cases h
  · rw [if_neg c]
/-- What Set tells of a key. -/
def codeOf (k : V4) : Int := if kok k.K k.N then 0 else 1
theorem codeOf_01 (k : V4) : codeOf k = 0 ∨ codeOf k = 1 := by unfold codeOf; split <;> simp
/-- The heap behind a Set into a table that had no key. -/
def Fr (w : World) (hb lim used i tb : Nat) (R : Value) (os : List Ob) (Z : Nat → Prop) (w' : World) : Prop :=
  ∃ used' x' Z', Hv w' hb lim used' R (os.set i x') Z' ∧ used' ≤ used + 1 ∧ x'.tb = some tb ∧ x'.M = V0 ∧ x'.es.length ≤ 1 ∧ Wx Z w w' ∧ ∀ k, Z' k → Z k ∨ w.heap.size ≤ k
theorem set_fresh {w : World} {hb lim used i tb : Nat} {R : Value} {os : List Ob} {Z : Nat → Prop} {x : Ob} (h : Hv w hb lim used R os Z) (hi : os[i]? = some x) (ht : x.tb = some tb) (hes : x.es = []) (hM : x.M = V0) (o : Int) (ho : o = (i : Int) + 1) (k v : V4) (hN2 : U64 k.N) (hvN : U64 v.N) (hS : k.S.size ≤ 9223372036854775807) (hlt : used < lim) :
    Calls Tryd.prog 12 #[.pointer (some ⟨hb, 0, none⟩), .int .i64 o, .agg #[.int .i64 k.K, .int .u64 k.N, .string k.S, .int .i64 k.O], .agg #[.int .i64 v.K, .int .u64 v.N, .string v.S, .int .i64 v.O]] w fun e w' => e = .returned (.int .i64 (codeOf k)) ∧ Fr w hb lim used i tb R os Z w' := by
  cases hko : kok k.K k.N with
  | false =>
    refine (Set_no h hi ht o ho k.K k.N k.S k.O v.K v.N v.S v.O hN2 hko).mono ?_
    rintro e w' ⟨rfl, hb1⟩
    exact ⟨by unfold codeOf; rw [if_neg (by rw [hko]; decide)], used, x, Z, by rw [set_same9 hi]; exact h.below hb1, by omega, ht, hM, by rw [hes]; simp, Wx.of_below Z hb1, fun k hk => Or.inl hk⟩
  | true =>
    refine (Set_new h hi ht o ho k.K k.N k.S k.O v.K v.N v.S v.O hN2 hvN hS hko (by rw [hes]; rfl) hlt).mono ?_
    rintro e w' ⟨rfl, hp⟩
    refine ⟨by unfold codeOf; rw [if_pos hko], ?_⟩
    by_cases c : nK v.K = 0
    · obtain ⟨h1, h2⟩ := hp.1 c
      exact ⟨used, x, Z, by rw [set_same9 hi]; exact h1, by omega, ht, hM, by rw [hes]; simp, h2, fun k hk => Or.inl hk⟩
    · obtain ⟨b, X', h1, h2⟩ := hp.2 c
      refine ⟨used + 1, _, _, h1, by omega, ht, hM, by simp [hes], h2, fun k hk => ?_⟩
      rcases hk with c | c
      · exact Or.inl c
      · exact Or.inr c.1

theorem keep44 {W w' : World} {a b c d : Nat} {k l v x : V4} {X : Nat → Prop} (h : (At4 W a 0 k ∧ At4 W b 0 l) ∧ At4 W c 0 v ∧ At4 W d 0 x) (hw : Wx X W w') (ha : ¬ X a) (hb : ¬ X b) (hc : ¬ X c) (hd : ¬ X d) : (At4 w' a 0 k ∧ At4 w' b 0 l) ∧ At4 w' c 0 v ∧ At4 w' d 0 x :=
  ⟨⟨h.1.1.wx hw ha, h.1.2.wx hw hb⟩, h.2.1.wx hw hc, h.2.2.wx hw hd⟩
theorem look_plain {os : List Ob} {i tb : Nat} {x : Ob} (hi : os[i]? = some x) (ht : x.tb = some tb) (hM : x.M = V0) (K N : Int) (S : ByteArray) (O : Int) : lookV os ((i : Int) + 1) K N S O = getV os ((i : Int) + 1) K N S O := by
  unfold lookV getV
  rw [tabOf_of hi ht]
  simp only
  split
  · exact lookF_stop (Or.inr (Or.inr (by rw [hM]; rfl)))
  · rfl

/-- Two tables, the second one standing in for the first. -/
theorem apart_get {x y : Ob} {tb : Nat} (hx : x.tb = some tb) (M : V4) (K N : Int) (S : ByteArray) (O : Int) : getV [{ x with M := M }, y] 1 K N S O = getV [x, y] 1 K N S O := by
  unfold getV
  rw [show tabOf [{ x with M := M }, y] 1 = some { x with M := M } from tabOf_of (os := [{ x with M := M }, y]) (i := 0) (tb := tb) rfl hx, show tabOf [x, y] 1 = some x from tabOf_of (os := [x, y]) (i := 0) (tb := tb) rfl hx]
theorem apart_look {x y : Ob} {tb tb2 : Nat} (hx : x.tb = some tb) (hy : y.tb = some tb2) (hM : y.M = V0) (K N : Int) (S : ByteArray) (O : Int) :
    lookV [{ x with M := ⟨5, 0, ⟨#[]⟩, 2⟩ }, y] 1 K N S O = if (getV [x, y] 1 K N S O).K = 0 then getV [x, y] 2 K N S O else getV [x, y] 1 K N S O := by
  have e1 : tabOf [{ x with M := ⟨5, 0, ⟨#[]⟩, 2⟩ }, y] 1 = some { x with M := ⟨5, 0, ⟨#[]⟩, 2⟩ } := tabOf_of (os := [{ x with M := ⟨5, 0, ⟨#[]⟩, 2⟩ }, y]) (i := 0) (tb := tb) rfl hx
  have e2 : tabOf [{ x with M := ⟨5, 0, ⟨#[]⟩, 2⟩ }, y] 2 = some y := tabOf_of (os := [{ x with M := ⟨5, 0, ⟨#[]⟩, 2⟩ }, y]) (i := 1) (tb := tb2) rfl hy
  have e3 : tabOf [x, y] 1 = some x := tabOf_of (os := [x, y]) (i := 0) (tb := tb) rfl hx
  have e4 : tabOf [x, y] 2 = some y := tabOf_of (os := [x, y]) (i := 1) (tb := tb2) rfl hy
  unfold lookV getV
  rw [e1, e3, e4]
  simp only
  by_cases c : kok K N = true
  · rw [if_pos c, if_pos c, if_pos c]
    by_cases d : (fndV (ofKey (yK K N) (yN K N) (yS K N S) (yO K N O) x.es)).K = 0
    · rw [if_pos d]
      refine (lookF_go (n := 15) (x := { x with M := ⟨5, 0, ⟨#[]⟩, 2⟩ }) d (by show (5 : Int) ≠ 0; decide) e2).trans ?_
      exact lookF_stop (Or.inr (Or.inr (by rw [hM]; rfl)))
    · rw [if_neg d]
      exact lookF_stop (x := { x with M := ⟨5, 0, ⟨#[]⟩, 2⟩ }) (Or.inr (Or.inl d))
  · rw [if_neg c, if_neg c, if_neg c]
    rfl
theorem size_few {w : World} {hb lim used i tb : Nat} {R : Value} {os : List Ob} {Z : Nat → Prop} {x : Ob} (h : Hv w hb lim used R os Z) (hi : os[i]? = some x) (ht : x.tb = some tb) (hes : x.es.length ≤ 1) (o : Int) (ho : o = (i : Int) + 1) :
    ∃ s : Nat, s ≤ 1 ∧ ∀ w', Below w.heap.size w w' → Calls Tryd.prog 15 #[.pointer (some ⟨hb, 0, none⟩), .int .i64 o] w' fun e w2 => e = .returned (.int .i64 (s : Int)) ∧ Below w'.heap.size w' w2 := by
  have hT := ((h.ob i x hi).tab tb ht).2.1
  obtain ⟨s, h1, h2, _⟩ := hT.size2
  refine ⟨s, ?_, fun w' hb' => ?_⟩
  · rcases Nat.lt_or_ge s 2 with c | c
    · omega
    · obtain ⟨e, he, hn⟩ := h2 0 (by omega)
      obtain ⟨f, hf, hm⟩ := h2 1 (by omega)
      have hef : e = f := by
        match hxe : x.es with
        | [] => rw [hxe] at he; cases he
        | [a] => rw [hxe] at he hf; rw [List.mem_singleton.1 he, List.mem_singleton.1 hf]
        | a :: b :: r => rw [hxe] at hes; simp at hes
      subst hef
      have := hn.2.2.symm.trans hm.2.2
      simp at this
  · refine (size_hv (h.below hb') o).mono ?_
    rintro e w2 ⟨hw2, s', rfl, hm⟩
    rw [ho, tabOf_of hi ht] at hm
    obtain ⟨t, ht', hc⟩ := hm
    rw [ht] at ht'
    injection ht' with ht'
    subst ht'
    have hc2 : w'.cell? ⟨tb, 9, none⟩ = some (.int .i64 (s : Int)) := (hb'.cell (p := ⟨tb, 9, none⟩) (hT.lt tb hT.own)).trans h1
    have : (s' : Int) = s := by
      have := hc.symm.trans hc2
      injection this with this
      injection this with _ this
    rw [this, hw2]
    exact ⟨rfl, Below.refl _ _⟩

end Go.Proofs.YtjlcdpablnnplaaDoor

/-
  What the rows' readings give the walks of layer 9: the library's table, values that came in.
-/
namespace Go.Proofs.YtjlcdpablnnplaaDoor
set_option maxRecDepth 100000
open Go.ChangeShapes Go.WideShapes Go.ChangeAt Go.RowKit Flo

theorem ownKnob_none : ownKnob Tryd.prog.godebug = none := by kernel_rfl
theorem laidOut : laidOutB Tryd.prog = true := by kernel_rfl
def laidDb : List (String × DataW Unit) := [("math/bits.deBruijn64tab", Rows.laid_math_bits_deBruijn64tab)]
theorem db_data : (Rows.laid_math_bits_deBruijn64tab : DataW Unit) = Lib.tabData .u8 (Lib.deBruijn64tab.map fun n : Nat => (n : Int)) := by kernel_rfl
theorem gDb : Tryd.prog.globalNamed "math/bits.deBruijn64tab" = some 1 := by kernel_rfl
theorem db_len : Lib.deBruijn64tab.length = 64 := by kernel_rfl
/-- What the row's list gives: the table's cells. -/
theorem dbTab {W : World} (h : laidMetH Tryd.prog laidDb W) : Db W := by
  have h2 : laidMet Tryd.prog [("math/bits.deBruijn64tab", Lib.tabData .u8 (Lib.deBruijn64tab.map fun n : Nat => (n : Int)))] W := by
    rw [← db_data]
    exact h
  have hb : (Tryd.prog.globals[1]?).map (·.type) = some 127 := by kernel_rfl
  have hT : Lib.TabIs Tryd.prog W "math/bits.deBruijn64tab" .u8 (Lib.deBruijn64tab.map fun n : Nat => (n : Int)) := Lib.tabIs_of_head (rest := []) gDb hb Tryd.underlying127 Tryd.underlying5 (by kernel_rfl) (by kernel_rfl) h2
  intro j hj
  have h7 := World.var?_cell gDb hT j
  rw [h7]
  have hl : j < Lib.deBruijn64tab.length := by rw [db_len]; exact hj
  simp [List.getD_eq_getElem?_getD, List.getElem?_eq_getElem hl]

theorem four_types : Tryd.prog.cellTypes Tryd.prog.depth 51 = some [3, 33, 9, 3, 3, 33, 9, 3, 3, 33, 9, 3, 3, 33, 9, 3] := by kernel_rfl
theorem four_cells : Tryd.prog.cellsOf 51 = 16 := by kernel_rfl
theorem array_16 {cs : Array Value} (h : cs.size = 16) : ∃ x0 x1 x2 x3 x4 x5 x6 x7 x8 x9 x10 x11 x12 x13 x14 x15, cs = #[x0, x1, x2, x3, x4, x5, x6, x7, x8, x9, x10, x11, x12, x13, x14, x15] := by
  obtain ⟨l⟩ := cs
  match l, h with
  | [x0, x1, x2, x3, x4, x5, x6, x7, x8, x9, x10, x11, x12, x13, x14, x15], _ => exact ⟨x0, x1, x2, x3, x4, x5, x6, x7, x8, x9, x10, x11, x12, x13, x14, x15, rfl⟩
theorem cell_int8 {P : Program} {W : World} {base : Nat} {t : TypeId} {k : IntKind} {v : Value} (ht : P.underlying t = some (.int k)) (h : Cell.okWide P W .any base t v) : ∃ n, v = .int k n ∧ k.has n := by
  simp only [Cell.okWide, ht] at h
  cases v <;> simp_all [Cell.ok]
theorem cell_text8 {P : Program} {W : World} {base : Nat} {t : TypeId} {v : Value} (ht : P.underlying t = some .string) (h : Cell.okWide P W .any base t v) : ∃ s, v = .string s ∧ s.size ≤ 9223372036854775807 := by
  simp only [Cell.okWide, ht] at h
  cases v <;> simp_all [Cell.ok]
  omega
/-- Four values that came in. -/
theorem open_four {W : World} {base : Nat} {y : Value} (hval : Value.okWide Tryd.prog W .any base 51 y) :
    ∃ k l v x : V4, y = .agg #[.int .i64 k.K, .int .u64 k.N, .string k.S, .int .i64 k.O, .int .i64 l.K, .int .u64 l.N, .string l.S, .int .i64 l.O, .int .i64 v.K, .int .u64 v.N, .string v.S, .int .i64 v.O, .int .i64 x.K, .int .u64 x.N, .string x.S, .int .i64 x.O] ∧ U64 k.N ∧ U64 l.N ∧ U64 v.N ∧ U64 x.N ∧ k.S.size ≤ 9223372036854775807 ∧ l.S.size ≤ 9223372036854775807 := by
  simp only [Value.okWide, Tryd.underlying51] at hval
  obtain ⟨cs, rfl, hsz, ts, hts, _, hrow⟩ := hval
  rw [four_types] at hts
  obtain rfl := Option.some.inj hts
  obtain ⟨x0, x1, x2, x3, x4, x5, x6, x7, x8, x9, x10, x11, x12, x13, x14, x15, rfl⟩ := array_16 (hsz.trans four_cells)
  obtain ⟨u0, e0, c0⟩ := hrow 0 x0 rfl
  obtain ⟨u1, e1, c1⟩ := hrow 1 x1 rfl
  obtain ⟨u2, e2, c2⟩ := hrow 2 x2 rfl
  obtain ⟨u3, e3, c3⟩ := hrow 3 x3 rfl
  obtain ⟨u4, e4, c4⟩ := hrow 4 x4 rfl
  obtain ⟨u5, e5, c5⟩ := hrow 5 x5 rfl
  obtain ⟨u6, e6, c6⟩ := hrow 6 x6 rfl
  obtain ⟨u7, e7, c7⟩ := hrow 7 x7 rfl
  obtain ⟨u8, e8, c8⟩ := hrow 8 x8 rfl
  obtain ⟨u9, e9, c9⟩ := hrow 9 x9 rfl
  obtain ⟨u10, e10, c10⟩ := hrow 10 x10 rfl
  obtain ⟨u11, e11, c11⟩ := hrow 11 x11 rfl
  obtain ⟨u12, e12, c12⟩ := hrow 12 x12 rfl
  obtain ⟨u13, e13, c13⟩ := hrow 13 x13 rfl
  obtain ⟨u14, e14, c14⟩ := hrow 14 x14 rfl
  obtain ⟨u15, e15, c15⟩ := hrow 15 x15 rfl
  obtain rfl : 3 = u0 := Option.some.inj e0
  obtain rfl : 33 = u1 := Option.some.inj e1
  obtain rfl : 9 = u2 := Option.some.inj e2
  obtain rfl : 3 = u3 := Option.some.inj e3
  obtain rfl : 3 = u4 := Option.some.inj e4
  obtain rfl : 33 = u5 := Option.some.inj e5
  obtain rfl : 9 = u6 := Option.some.inj e6
  obtain rfl : 3 = u7 := Option.some.inj e7
  obtain rfl : 3 = u8 := Option.some.inj e8
  obtain rfl : 33 = u9 := Option.some.inj e9
  obtain rfl : 9 = u10 := Option.some.inj e10
  obtain rfl : 3 = u11 := Option.some.inj e11
  obtain rfl : 3 = u12 := Option.some.inj e12
  obtain rfl : 33 = u13 := Option.some.inj e13
  obtain rfl : 9 = u14 := Option.some.inj e14
  obtain rfl : 3 = u15 := Option.some.inj e15
  obtain ⟨n0, rfl, b0⟩ := cell_int8 Tryd.underlying3 c0
  obtain ⟨n1, rfl, b1⟩ := cell_int8 Tryd.underlying33 c1
  obtain ⟨n2, rfl, b2⟩ := cell_text8 Tryd.underlying9 c2
  obtain ⟨n3, rfl, b3⟩ := cell_int8 Tryd.underlying3 c3
  obtain ⟨n4, rfl, b4⟩ := cell_int8 Tryd.underlying3 c4
  obtain ⟨n5, rfl, b5⟩ := cell_int8 Tryd.underlying33 c5
  obtain ⟨n6, rfl, b6⟩ := cell_text8 Tryd.underlying9 c6
  obtain ⟨n7, rfl, b7⟩ := cell_int8 Tryd.underlying3 c7
  obtain ⟨n8, rfl, b8⟩ := cell_int8 Tryd.underlying3 c8
  obtain ⟨n9, rfl, b9⟩ := cell_int8 Tryd.underlying33 c9
  obtain ⟨n10, rfl, b10⟩ := cell_text8 Tryd.underlying9 c10
  obtain ⟨n11, rfl, b11⟩ := cell_int8 Tryd.underlying3 c11
  obtain ⟨n12, rfl, b12⟩ := cell_int8 Tryd.underlying3 c12
  obtain ⟨n13, rfl, b13⟩ := cell_int8 Tryd.underlying33 c13
  obtain ⟨n14, rfl, b14⟩ := cell_text8 Tryd.underlying9 c14
  obtain ⟨n15, rfl, b15⟩ := cell_int8 Tryd.underlying3 c15
  simp [IntKind.has, IntKind.min, IntKind.max, IntKind.signed, IntKind.bits] at b1 b5 b9 b13
  exact ⟨⟨n0, n1, n2, n3⟩, ⟨n4, n5, n6, n7⟩, ⟨n8, n9, n10, n11⟩, ⟨n12, n13, n14, n15⟩, rfl, ⟨by simp only; omega, by simp only; omega⟩, ⟨by simp only; omega, by simp only; omega⟩, ⟨by simp only; omega, by simp only; omega⟩, ⟨by simp only; omega, by simp only; omega⟩, b2, b6⟩

end Go.Proofs.YtjlcdpablnnplaaDoor

/-
  Layer 9: a key that goes out of a table, on tables as a whole.
-/
namespace Go.Proofs.YtjlcdpablnnplaaDoor
set_option maxRecDepth 100000
open Go.RowKit Flo

/-- Numbers of one place are one. -/
theorem bit_same {m : Nat} {K N K' N' : Int} (hN : U64 N) (hN' : U64 N') (h : bitB m K N = true) (h' : bitB m K' N' = true) (e : bitN m K N = bitN m K' N') : K = 3 ∧ K' = 3 ∧ N = N' := by
  have a := of_decide_eq_true (by unfold bitB at h; exact h)
  have a' := of_decide_eq_true (by unfold bitB at h'; exact h')
  unfold bitN at e
  rw [if_pos h, if_pos h'] at e
  have e2 : toI N = toI N' := by omega
  refine ⟨a.1, a'.1, ?_⟩
  have tzN : toI N = tz N := by unfold toI; rw [if_pos a.2.1]
  have tzN' : toI N' = tz N' := by unfold toI; rw [if_pos a'.2.1]
  have isN : isZ N = true := by have := a.2.1; unfold toB at this; simp at this; exact this.1
  have isN' : isZ N' = true := by have := a'.2.1; unfold toB at this; simp at this; exact this.1
  have mz : ∀ x : Int, 1 ≤ tz x → MZ x ≠ 0 := fun x hx c => by
    unfold tz at hx
    rw [c, Nat.zero_div] at hx
    unfold sz at hx
    split at hx <;> simp at hx
  have b := back_word hN isN (mz N (by omega))
  have b' := back_word hN' isN' (mz N' (by omega))
  rw [← b, ← b', ← tzN, ← tzN', e2]

/-- A key that goes, out of what is counted. -/
theorem sz_drop {m s : Nat} {W : Nat → Nat} {xo yo : List En} {e : En} (h : Sz m W s (hasP m (xo ++ e :: yo))) (hu : ∀ f ∈ xo ++ e :: yo, U64 f.N)
    (hn : ∀ f ∈ xo ++ yo, ¬ (e.K = 3 ∧ f.K = 3 ∧ e.N = f.N)) : Sz m (disW m W e.K e.N) (disS m s e.K e.N) (hasP m (xo ++ yo)) := by
  refine (h.discount e.K e.N).same fun p _ => ?_
  unfold hasP
  constructor
  · rintro ⟨⟨f, hf, h1, h2⟩, h3⟩
    rcases List.mem_append.1 hf with c | c
    · exact ⟨f, List.mem_append_left _ c, h1, h2⟩
    · rcases List.mem_cons.1 c with d | d
      · subst d; exact absurd ⟨h1, h2⟩ h3
      · exact ⟨f, List.mem_append_right _ d, h1, h2⟩
  · rintro ⟨f, hf, h1, h2⟩
    have hf2 : f ∈ xo ++ e :: yo := by
      rcases List.mem_append.1 hf with c | c
      · exact List.mem_append_left _ c
      · exact List.mem_append_right _ (List.mem_cons_of_mem _ c)
    refine ⟨⟨f, hf2, h1, h2⟩, fun c => ?_⟩
    have := bit_same (hu e (by simp)) (hu f hf2) c.1 h1 (c.2.symm.trans h2)
    exact hn f hf ⟨this.1, this.2.1, this.2.2⟩

/-- A key that is there goes. -/
theorem tab_drop {w : World} {tb : Nat} {X : Nat → Prop} {xo yo : List En} {e : En} {M : V4} (h : Tv w tb X (xo ++ e :: yo) M) (hn : ∀ f ∈ xo ++ yo, ¬ (e.K = 3 ∧ f.K = 3 ∧ e.N = f.N)) :
    Calls Tryd.prog 50 #[.pointer (some ⟨tb, 0, none⟩), .pointer (some ⟨e.b, 0, none⟩)] w fun x w' => x = .returned (.tuple #[]) ∧
      ∃ X', Tv w' tb X' (xo ++ yo) M ∧ Wx X w w' ∧ ∀ k, X' k → X k ∨ w.heap.size ≤ k := by
  have hmem : ∀ f ∈ xo ++ yo, f ∈ xo ++ e :: yo := fun f hf => by
    rcases List.mem_append.1 hf with c | c
    · exact List.mem_append_left _ c
    · exact List.mem_append_right _ (List.mem_cons_of_mem _ c)
  rcases h.bod with ⟨e0, _⟩ | ⟨g, n, c, m, cs, W, s, t⟩
  · simp at e0
  have hlen : (xo ++ e :: yo).length = xo.length + yo.length + 1 := by simp; omega
  have hlen2 : (xo ++ yo).length = xo.length + yo.length := by simp
  have hfew := h.few
  have hg1 : g ≠ 1 := fun k => h.no1 (k ▸ t.xg)
  have hdr : Dr w tb g n c m cs W s xo e yo :=
    ⟨h.ord, t.kb, t.kc, t.row.1, fun o => h.free tb o h.own, fun f hf o => h.free f.b o (h.ent f hf).1, t.row.2, h.u64 e (by simp), h.db, t.gt, t.gc, hg1, fun k => h.no1 (k ▸ h.own), t.ec, fun f hf k => h.no1 (k ▸ (h.ent f hf).1), fun f hf => (h.ent f hf).2⟩
  have hu : ∀ f ∈ xo ++ yo, U64 f.N := fun f hf => h.u64 f (hmem f hf)
  have hent : ∀ f ∈ xo ++ yo, X f.b ∧ Blk w f.b := fun f hf => h.ent f (hmem f hf)
  have hfull := t.full
  have hj := bk_lt e.H t.kb.pos
  -- what is written ahead of a spreading
  have hA3 : ∀ (p r : List En), cs (bk e.H n) = p ++ e :: r → ∀ k o, (k, o) ∈ ([linkOf g (bk e.H n) p] ++ dropA tb xo yo) ++ [(c, bitN m e.K e.N / 64), (tb, 9)] → X k ∧ (k = tb → 4 ≤ o) := by
    intro p r hc k o hm
    rcases List.mem_append.1 hm with hm | hm
    · rcases List.mem_append.1 hm with hm | hm
      · rcases linkOf_cases (List.mem_singleton.1 hm) with ⟨q1, q2⟩ | ⟨q1, x, hx, q2⟩
        · exact ⟨q1 ▸ t.xg, fun k1 => absurd (q1.symm.trans k1) t.gt⟩
        · have hx2 := ((t.kb.mem _ hj x).1 (by rw [hc]; exact List.mem_append_left _ hx)).1
          exact ⟨q2 ▸ (h.ent x hx2).1, fun _ => by omega⟩
      · rcases dropA_cases hm with ⟨q1, q2⟩ | ⟨q1, z, hz, q2⟩ | ⟨q1, y, l, hy, q2⟩
        · exact ⟨q1 ▸ h.own, fun _ => by omega⟩
        · exact ⟨q2 ▸ (h.ent z (List.mem_append_left _ (List.mem_of_getLast? hz))).1, fun _ => by omega⟩
        · exact ⟨q2 ▸ (h.ent y (by rw [hy]; simp)).1, fun _ => by omega⟩
    · simp only [List.mem_cons, Prod.mk.injEq, List.not_mem_nil, or_false] at hm
      rcases hm with ⟨q1, _⟩ | ⟨q1, q2⟩
      · exact ⟨q1 ▸ t.xc, fun k1 => absurd (k1.symm.trans q1) t.kc.ne⟩
      · exact ⟨q1 ▸ h.own, fun _ => by omega⟩
  have hsz := sz_drop t.sz h.u64 hn
  obtain ⟨kn, hkn⟩ := t.n4
  by_cases hs : 4 < n ∧ xo.length + yo.length < n / 4
  · refine (drop_shrink tb g n c m cs W s xo e yo w hdr hs hu (n / 2) ((n / 2 + 63) / 64) rfl rfl (by omega)).mono ?_
    rintro x w' ⟨rfl, p, r, w1, w2, w3, hc, a1, a2, a3, b1, b2, b3, w4, W1, d1, d2, d3⟩
    refine ⟨rfl, ?_⟩
    obtain ⟨kn, rfl⟩ : ∃ k, kn = k + 1 := by
      cases kn with
      | zero => omega
      | succ k => exact ⟨k, rfl⟩
    have hn4 : ∃ k, n / 2 = 4 * 2 ^ k := ⟨kn, by rw [hkn, Nat.pow_succ]; omega⟩
    have hpos : 1 ≤ 2 ^ kn := Nat.one_le_two_pow
    have hnb : 8 ≤ n := by rw [hkn, Nat.pow_succ]; omega
    have ht := ((((a1.trans a2).trans a3).trans d1).trans d2.wr).trans d3.wt
    have hs4 : w.heap.size ≤ w4.heap.size := by have := a1.size; have := a2.size; have := a3.size; have := d1.size; omega
    have hs1 := d2.size
    obtain ⟨cs', hcs'⟩ := d3.bx
    have hfl : ∀ f ∈ xo ++ yo, f.b < w.heap.size := fun f hf => h.lt _ (hent f hf).1
    have htl := h.lt tb h.own
    have hsp : ∀ k o, (k, o) ∈ spA tb w4.heap.size (w4.heap.size + 1) (n / 2) ((n / 2 + 63) / 64) (xo ++ yo) → (X k ∧ (k = tb → 4 ≤ o) ∧ k < w.heap.size ∧ (o = 9)) ∨ w.heap.size ≤ k := by
      intro k o hm
      rcases spA_mem hm with ⟨f, hf, q1, q2⟩ | q1 | q1 | ⟨q1, q2⟩
      · exact Or.inl ⟨q1 ▸ (hent f hf).1, fun _ => by omega, by rw [q1]; exact hfl f hf, q2⟩
      · exact Or.inr (by omega)
      · exact Or.inr (by omega)
      · exact Or.inl ⟨q1 ▸ h.own, fun _ => by omega, by rw [q1]; exact htl, q2⟩
    have hor : Or w' tb (xo ++ yo) := by
      have o1 := b1.wr d1 (by simp) (by simp) (by simp) (fun f hf => ⟨by simp, by simp⟩)
      have o2 := o1.wr d2.wr (by simp) (by simp) (by simp) (fun f hf => by
        have := h.ord.apart f (hmem f hf)
        simp only [List.mem_cons, Prod.mk.injEq, List.not_mem_nil, or_false]
        omega)
      refine o2.wr d3.wt ?_ ?_ ?_ (fun f hf => ⟨?_, ?_⟩)
      all_goals
        intro hm
        rcases hsp _ _ hm with ⟨_, _, _, q⟩ | q
        · omega
        · first
            | omega
            | (have := hfl f hf; omega)
    have hrow : Rw w' tb w4.heap.size (n / 2) := by
      refine ⟨d3.wt.cell (fun hm => ?_) d2.c7, fun j => (d3.wt.2.1 _ j (by omega)).trans (d2.zg j)⟩
      rcases hsp _ _ hm with ⟨_, _, _, q⟩ | q <;> omega
    refine Tv.mk' (Y := X) h.own h.lt h.no1 h.free h.db h.mt ht (fun k o hm => ?_) hor (by omega) hu hent ⟨hcs', d3.cx, cntF_sz _ _, hrow, by omega, by omega, hn4, by have := t.nfew; omega, trivial, trivial, by omega, by omega, fun f hf => by have := hfl f hf; omega⟩ (Or.inr (by omega)) (Or.inr (by omega))
    rcases List.mem_append.1 hm with hm | hm
    · rcases List.mem_append.1 hm with hm | hm
      · rcases List.mem_append.1 hm with hm | hm
        · exact Or.inl (hA3 p r hc k o hm)
        · cases hm
      · simp only [List.mem_cons, Prod.mk.injEq, List.not_mem_nil, or_false] at hm
        have hk : k = tb := by omega
        exact Or.inl ⟨hk ▸ h.own, fun _ => by omega⟩
    · rcases hsp k o hm with ⟨q1, q2, _⟩ | q
      · exact Or.inl ⟨q1, q2⟩
      · exact Or.inr q
  · refine (drop_stay tb g n c m cs W s xo e yo w hdr hs (by omega)).mono ?_
    rintro x w' ⟨rfl, p, r, w1, w2, w3, hc, a1, a2, a3, b1, b2, b3, d1⟩
    refine ⟨rfl, ?_⟩
    have ht3 := (a1.trans a2).trans a3
    have ht := ht3.trans d1
    have hrow : Rw w' tb g n := by
      have htr : ∀ o, o = 7 → (tb, o) ∉ ([linkOf g (bk e.H n) p] ++ dropA tb xo yo) ++ [(c, bitN m e.K e.N / 64), (tb, 9)] := by
        intro o ho hm
        rcases List.mem_append.1 hm with hm | hm
        · rcases List.mem_append.1 hm with hm | hm
          · rcases linkOf_cases (List.mem_singleton.1 hm) with ⟨q1, _⟩ | ⟨q1, _⟩
            · exact t.gt q1.symm
            · omega
          · rcases dropA_cases hm with ⟨_, q2⟩ | ⟨q1, _⟩ | ⟨q1, _⟩ <;> omega
        · simp only [List.mem_cons, Prod.mk.injEq, List.not_mem_nil, or_false] at hm
          rcases hm with ⟨q1, _⟩ | ⟨_, q2⟩
          · exact t.kc.ne q1
          · omega
      refine ⟨d1.cell (by simp) (ht3.cell (htr 7 rfl) t.row.1), fun j => (ht.2.1 g j t.kb.lt).trans (t.row.2 j)⟩
    refine Tv.mk' (Y := X) h.own h.lt h.no1 h.free h.db h.mt ht (fun k o hm => ?_) (b1.wr d1 (by simp) (by simp) (by simp) (fun f hf => ⟨by simp, by simp⟩)) (by omega) hu hent
      ⟨b2.wr d1 (fun j => by simp) (fun f hf o _ => by simp), b3.wr d1 (by simp) (by simp) (fun i => by simp), hsz, hrow, by omega, t.words, t.n4, t.nfew, trivial, trivial, t.gt, t.gc, fun f hf => t.ec f (hmem f hf)⟩ (Or.inl t.xg) (Or.inl t.xc)
    rcases List.mem_append.1 hm with hm | hm
    · exact Or.inl (hA3 p r hc k o hm)
    · cases hm

end Go.Proofs.YtjlcdpablnnplaaDoor
