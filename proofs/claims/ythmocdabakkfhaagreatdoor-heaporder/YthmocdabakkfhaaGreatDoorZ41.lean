/-
  HpSame
-/
import Derived.Deep.QuietTactic
import Derived.BigQuiet
import Derived.Test.YthmocdabakkfhaaGreatDoorZ40

/-
  Layer 9: the reference's Same, of two objects that are one.
-/
namespace Go.Proofs.YthmocdabakkfhaaGreatDoor
set_option maxRecDepth 100000
open Go.RowKit Flo

/-- The pointer of a row that reads as these values. -/
def Vp (w : World) (a : Option Addr) (l : List V4) : Prop := 0 < l.length → ∃ g, a = some ⟨g, 0, none⟩ ∧ g < w.heap.size ∧ ∀ (i : Nat) x, l[i]? = some x → At4 w g (i * 4) x
theorem Vp.below {w w' : World} {a : Option Addr} {l : List V4} (h : Vp w a l) (k : Below w.heap.size w w') : Vp w' a l := fun h0 => by
  obtain ⟨g, e, hg, hc⟩ := h h0
  exact ⟨g, e, Nat.lt_of_lt_of_le hg k.size, fun i x hx => ⟨(k.cell hg).trans (hc i x hx).c0, (k.cell hg).trans (hc i x hx).c1, (k.cell hg).trans (hc i x hx).c2, (k.cell hg).trans (hc i x hx).c3⟩⟩

set_option maxHeartbeats 4000000 in
theorem rsame_any (m : Om) (w : World) (ka va sa kb vb sb : Option Addr) (kca vca sca kcb vcb scb : Nat) (hkv : m.vs.length = m.ks.length) (hkl : m.ks.length ≤ 1048576) (hsl : m.sl.length ≤ 1048576)
    (h1 : Vp w ka m.ks) (h2 : Vp w va m.vs) (h3 : Vp w sa m.sl) (h4 : Vp w kb m.ks) (h5 : Vp w vb m.vs) (h6 : Vp w sb m.sl) :
    Calls Tryz.prog 15 #[.agg #[.int .i64 m.k, .slice ka m.ks.length kca, .slice va m.vs.length vca, .int .i64 m.M.K, .int .u64 m.M.N, .string m.M.S, .int .i64 m.M.O, .int .i64 m.a, .int .i64 m.b, .slice sa m.sl.length sca], .agg #[.int .i64 m.k, .slice kb m.ks.length kcb, .slice vb m.vs.length vcb, .int .i64 m.M.K, .int .u64 m.M.N, .string m.M.S, .int .i64 m.M.O, .int .i64 m.a, .int .i64 m.b, .slice sb m.sl.length scb]] w fun e w' => e = .returned (.bool true) ∧ Below w.heap.size w w' := by
  obtain ⟨w0, hw0⟩ : ∃ w0, w0 = ((w.alloc (.cells #[.int .i64 m.k, .slice ka m.ks.length kca, .slice va m.vs.length vca, .int .i64 m.M.K, .int .u64 m.M.N, .string m.M.S, .int .i64 m.M.O, .int .i64 m.a, .int .i64 m.b, .slice sa m.sl.length sca] 39)).alloc (.cells #[.int .i64 m.k, .slice kb m.ks.length kcb, .slice vb m.vs.length vcb, .int .i64 m.M.K, .int .u64 m.M.N, .string m.M.S, .int .i64 m.M.O, .int .i64 m.a, .int .i64 m.b, .slice sb m.sl.length scb] 39)) := ⟨_, rfl⟩
  have hb0 : Below w.heap.size w w0 := by rw [hw0]; exact ((Below.refl _ _).alloc (Nat.le_refl _) _).alloc (by simp) _
  have HB := hide_p hb0
  have H1 := hide_p (h1.below hb0)
  have H2 := hide_p (h2.below hb0)
  have H3 := hide_p (h3.below hb0)
  have H4 := hide_p (h4.below hb0)
  have H5 := hide_p (h5.below hb0)
  have H6 := hide_p (h6.below hb0)
  have a0 : w0.cell? ⟨w.heap.size, 0, none⟩ = some (.int .i64 m.k) := by rw [hw0]; go_simp
  have a1 : w0.cell? ⟨w.heap.size, 1, none⟩ = some (.slice ka m.ks.length kca) := by rw [hw0]; go_simp
  have a2 : w0.cell? ⟨w.heap.size, 2, none⟩ = some (.slice va m.vs.length vca) := by rw [hw0]; go_simp
  have a3 : w0.cell? ⟨w.heap.size, 3, none⟩ = some (.int .i64 m.M.K) := by rw [hw0]; go_simp
  have a4 : w0.cell? ⟨w.heap.size, 4, none⟩ = some (.int .u64 m.M.N) := by rw [hw0]; go_simp
  have a5 : w0.cell? ⟨w.heap.size, 5, none⟩ = some (.string m.M.S) := by rw [hw0]; go_simp
  have a6 : w0.cell? ⟨w.heap.size, 6, none⟩ = some (.int .i64 m.M.O) := by rw [hw0]; go_simp
  have a7 : w0.cell? ⟨w.heap.size, 7, none⟩ = some (.int .i64 m.a) := by rw [hw0]; go_simp
  have a8 : w0.cell? ⟨w.heap.size, 8, none⟩ = some (.int .i64 m.b) := by rw [hw0]; go_simp
  have a9 : w0.cell? ⟨w.heap.size, 9, none⟩ = some (.slice sa m.sl.length sca) := by rw [hw0]; go_simp
  have b0 : w0.cell? ⟨w.heap.size + 1, 0, none⟩ = some (.int .i64 m.k) := by rw [hw0]; go_simp
  have b1 : w0.cell? ⟨w.heap.size + 1, 1, none⟩ = some (.slice kb m.ks.length kcb) := by rw [hw0]; go_simp
  have b2 : w0.cell? ⟨w.heap.size + 1, 2, none⟩ = some (.slice vb m.vs.length vcb) := by rw [hw0]; go_simp
  have b3 : w0.cell? ⟨w.heap.size + 1, 3, none⟩ = some (.int .i64 m.M.K) := by rw [hw0]; go_simp
  have b4 : w0.cell? ⟨w.heap.size + 1, 4, none⟩ = some (.int .u64 m.M.N) := by rw [hw0]; go_simp
  have b5 : w0.cell? ⟨w.heap.size + 1, 5, none⟩ = some (.string m.M.S) := by rw [hw0]; go_simp
  have b6 : w0.cell? ⟨w.heap.size + 1, 6, none⟩ = some (.int .i64 m.M.O) := by rw [hw0]; go_simp
  have b7 : w0.cell? ⟨w.heap.size + 1, 7, none⟩ = some (.int .i64 m.a) := by rw [hw0]; go_simp
  have b8 : w0.cell? ⟨w.heap.size + 1, 8, none⟩ = some (.int .i64 m.b) := by rw [hw0]; go_simp
  have b9 : w0.cell? ⟨w.heap.size + 1, 9, none⟩ = some (.slice sb m.sl.length scb) := by rw [hw0]; go_simp
  clear h1 h2 h3 h4 h5 h6 hb0
  have HKV := hide_p hkv
  rw [hkv] at a2 b2
  obtain ⟨nk, hnk⟩ : ∃ n, n = m.ks.length := ⟨_, rfl⟩
  obtain ⟨ns, hns⟩ : ∃ n, n = m.sl.length := ⟨_, rfl⟩
  rw [← hnk] at a1 b1 a2 b2 hkl
  rw [← hns] at a9 b9 hsl
  have HNK := hide_p hnk
  have HNS := hide_p hns
  clear hkv hnk hns
  go_enter Tryz.func15, Tryz.ntmps15
  go_upto_region 1 with fail
  rw [← hw0]
  clear hw0
  go_wp2_with fail
  go_loopg [5] nk (fun kk t5 wr => ∃ i : Nat, t5 = .int .i64 (i : Int) ∧ i ≤ nk ∧ Hid (kk = nk - i ∧ ∃ q, wr = w0.drewN q))
  case atStart => exact ⟨0, rfl, Nat.zero_le _, rfl, 0, rfl⟩
  case round =>
    obtain ⟨i, rfl, hi, HI⟩ := hrel
    have hcw : ∀ p, wr.cell? p = w0.cell? p := fun p => by
      obtain ⟨_, q, e⟩ := HI.out
      rw [e]; rfl
    have A1 := (hcw _).trans a1
    have B1 := (hcw _).trans b1
    have A2 := (hcw _).trans a2
    have B2 := (hcw _).trans b2
    have A9 := (hcw _).trans a9
    have B9 := (hcw _).trans b9
    by_cases c : i < nk
    · have ci : (i : Int) < (nk : Int) := by omega
      have ci0 : (0 : Int) ≤ (i : Int) := by omega
      obtain ⟨x, hx⟩ : ∃ x, m.ks[i]? = some x := ⟨m.ks[i]'(by have := HNK.out; omega), List.getElem?_eq_getElem _⟩
      obtain ⟨y, hy⟩ : ∃ y, m.vs[i]? = some y := ⟨m.vs[i]'(by have := HNK.out; have := HKV.out; omega), List.getElem?_eq_getElem _⟩
      obtain ⟨g1, rfl, l1, d1⟩ := H1.out (by have := HNK.out; omega)
      obtain ⟨g2, rfl, l2, d2⟩ := H2.out (by have := HNK.out; have := HKV.out; omega)
      obtain ⟨g4, rfl, l4, d4⟩ := H4.out (by have := HNK.out; omega)
      obtain ⟨g5, rfl, l5, d5⟩ := H5.out (by have := HNK.out; have := HKV.out; omega)
      have P0 := (hcw _).trans (d1 i x hx).c0
      have P1 := (hcw _).trans (d1 i x hx).c1
      have P2 := (hcw _).trans (d1 i x hx).c2
      have P3 := (hcw _).trans (d1 i x hx).c3
      have Q0 := (hcw _).trans (d2 i y hy).c0
      have Q1 := (hcw _).trans (d2 i y hy).c1
      have Q2 := (hcw _).trans (d2 i y hy).c2
      have Q3 := (hcw _).trans (d2 i y hy).c3
      have R0 := (hcw _).trans (d4 i x hx).c0
      have R1 := (hcw _).trans (d4 i x hx).c1
      have R2 := (hcw _).trans (d4 i x hx).c2
      have R3 := (hcw _).trans (d4 i x hx).c3
      have S0 := (hcw _).trans (d5 i y hy).c0
      have S1 := (hcw _).trans (d5 i y hy).c1
      have S2 := (hcw _).trans (d5 i y hy).c2
      have S3 := (hcw _).trans (d5 i y hy).c3
      clear d1 d2 d4 d5 hx hy hcw H1 H2 H3 H4 H5 H6 a0 a1 a2 a3 a4 a5 a6 a7 a8 a9 b0 b1 b2 b3 b4 b5 b6 b7 b8 b9
      go_wp2_with fail
      go_quiet (fail)
      go_wp2
      go_roundg (nk - (i + 1))
      case measure => have := HI.out.1; omega
      case rel => exact ⟨i + 1, by go_num, by omega, rfl, by obtain ⟨_, q, e⟩ := HI.out; exact ⟨q + nq, by rw [e]; simp [World.drewN, Nat.add_assoc]⟩⟩
    · have ci : ¬ (i : Int) < (nk : Int) := by omega
      obtain ⟨q, hq⟩ := HI.out.2
      have HQ : Hid (∃ q, wr = w0.drewN q) := ⟨q, hq⟩
      clear HI hq hcw
      obtain ⟨w5, hw5⟩ : ∃ x, x = wr := ⟨_, rfl⟩
      subst hw5
      go_wp2_with fail
      go_loopg [6] ns (fun kk t6 wr => ∃ i : Nat, t6 = .int .i64 (i : Int) ∧ i ≤ ns ∧ Hid (kk = ns - i ∧ ∃ q, wr = w0.drewN q))
      case atStart => exact ⟨0, rfl, Nat.zero_le _, rfl, HQ.out⟩
      case round =>
        obtain ⟨i2, rfl, hi2, HI⟩ := hrel
        clear A1 A2 A9 B1 B2 B9
        have hcw : ∀ p, wr.cell? p = w0.cell? p := fun p => by
          obtain ⟨_, q, e⟩ := HI.out
          rw [e]; rfl
        have A9 := (hcw _).trans a9
        have B9 := (hcw _).trans b9
        by_cases c2 : i2 < ns
        · have ci2 : (i2 : Int) < (ns : Int) := by omega
          have ci0 : (0 : Int) ≤ (i2 : Int) := by omega
          obtain ⟨x, hx⟩ : ∃ x, m.sl[i2]? = some x := ⟨m.sl[i2]'(by have := HNS.out; omega), List.getElem?_eq_getElem _⟩
          obtain ⟨g1, rfl, l1, d1⟩ := H3.out (by have := HNS.out; omega)
          obtain ⟨g2, rfl, l2, d2⟩ := H6.out (by have := HNS.out; omega)
          have P0 := (hcw _).trans (d1 i2 x hx).c0
          have P1 := (hcw _).trans (d1 i2 x hx).c1
          have P2 := (hcw _).trans (d1 i2 x hx).c2
          have P3 := (hcw _).trans (d1 i2 x hx).c3
          have Q0 := (hcw _).trans (d2 i2 x hx).c0
          have Q1 := (hcw _).trans (d2 i2 x hx).c1
          have Q2 := (hcw _).trans (d2 i2 x hx).c2
          have Q3 := (hcw _).trans (d2 i2 x hx).c3
          clear d1 d2 hx hcw H1 H2 H3 H4 H5 H6 a0 a1 a2 a3 a4 a5 a6 a7 a8 a9 b0 b1 b2 b3 b4 b5 b6 b7 b8 b9 HQ
          go_wp2_with fail
          go_quiet (fail)
          go_wp2
          go_roundg (ns - (i2 + 1))
          case measure => have := HI.out.1; omega
          case rel => exact ⟨i2 + 1, by go_num, by omega, rfl, by obtain ⟨_, q, e⟩ := HI.out; exact ⟨q + nq, by rw [e]; simp [World.drewN, Nat.add_assoc]⟩⟩
        · have ci2 : ¬ (i2 : Int) < (ns : Int) := by omega
          obtain ⟨q, hq⟩ := HI.out.2
          have HE : Hid (Below w.heap.size w wr) := by
            show Below _ _ _
            rw [hq]
            exact HB.out.trans ((hp_drewN w0 q).mono HB.out.size)
          clear HI hq hcw
          go_wp2
          go_ret
          exact ⟨rfl, HE.out⟩

end Go.Proofs.YthmocdabakkfhaaGreatDoor
