/-
  LexJoins
-/
import Derived.Test.YtfhoimfjfbbhaaaDoorW20

/-
  LexJoins: the words of two scripts, one on the lines behind the other, are those of both: walked.
-/
namespace Go.Proofs.YtfhoimfjfbbhaaaDoor
set_option maxRecDepth 100000
open Go.RowKit Txt Lx

set_option maxHeartbeats 1000000 in
theorem lxsame_any (g1 g2 n c1 c2 : Nat) (w : World) (hn : n ≤ 20000) (h : ∀ i, i < n → ∃ t, Tc w g1 i t ∧ Tc w g2 i t) :
    Calls Tryd.prog 11 #[.slice (some ⟨g1, 0, none⟩) n c1, .slice (some ⟨g2, 0, none⟩) n c2] w fun e w' => e = .returned (.bool true) ∧ ∃ q, w' = w.drewN q := by
  have H : Hid (∀ i, i < n → ∃ t, Tc w g1 i t ∧ Tc w g2 i t) := h
  clear h
  go_enter Tryd.func11, Tryd.ntmps11
  go_wp2_with fail
  go_loopg [5] n (fun k t5 wr => ∃ i q : Nat, t5 = .int .i64 (i : Int) ∧ i ≤ n ∧ k = n - i ∧ wr = w.drewN q)
  case atStart => exact ⟨0, 0, rfl, by omega, rfl, rfl⟩
  case round =>
    obtain ⟨i, q, rfl, hi, hk, rfl⟩ := hrel
    by_cases c : i < n
    · obtain ⟨t, ha, hb⟩ := H.out i c
      have a0 := ha.k
      have a1 := ha.p
      have a2 := ha.s
      have a3 := ha.n
      have b0 := hb.k
      have b1 := hb.p
      have b2 := hb.s
      have b3 := hb.n
      have ci : (i : Int) < (n : Int) := by omega
      generalize t.k = tk at *
      generalize t.pos = tp at *
      generalize bs t.s = ts at *
      generalize t.n = tn at *
      clear ha hb
      go_wp2_with fail
      go_quiet (fail)
      go_wp2_with fail
      go_roundg (n - (i + 1))
      case measure => omega
      case rel => exact ⟨i + 1, q + nq, by go_num, by omega, rfl, by simp⟩
    · have ci : ¬ (i : Int) < (n : Int) := by omega
      go_wp2
      go_ret
      exact ⟨rfl, q, rfl⟩

theorem words_some (l : List UInt8) (w : World) (hs : Sg w) : Calls Tryd.prog 9 #[.string (bs l)] w fun e w' => ∃ (v : Value) (p x : Nat), e = .returned (.tuple #[v, .int .i64 (p : Int), .int .i64 (x : Int)]) ∧ Below w.heap.size w w' := by
  have h := words_any l w hs _ rfl
  cases e : wordsF l with
  | inl px => rw [e] at h; exact h.mono fun _ _ ⟨h1, h2⟩ => ⟨_, _, _, h1, h2⟩
  | inr ts => rw [e] at h; exact h.mono fun _ _ ⟨v, h1, _, h2⟩ => ⟨v, 0, 0, h1, h2⟩
theorem Sg.below {w w' : World} (hs : Sg w) (hb : Below w.heap.size w w') : Sg w' := ⟨Nat.lt_of_lt_of_le hs.1 hb.size, fun r hr => (hb.cell (p := ⟨0, r, none⟩) hs.1).trans (hs.2 r hr)⟩
theorem TO.capp {w : World} {B : Nat} {g n cap : Nat} {ts : List Tk} (h : TO w B (.slice (some ⟨g, 0, none⟩) n cap) ts) (h0 : 0 < ts.length) : ts.length ≤ cap := by
  rcases id h.2 with ⟨_, e⟩ | ⟨g', cap', cur, e, hb, hg, h1, _⟩
  · omega
  · injection e with _ e2 e3
    omega

theorem Tc.below {w w' : World} {g i : Nat} {t : Tk} (h : Tc w g i t) (hb : Below w.heap.size w w') : Tc w' g i t := by
  have hg : g < w.heap.size := World.block_lt_of_cell? w _ h.k
  exact ⟨(hb.cell (p := ⟨g, i * 4, none⟩) hg).trans h.k, (hb.cell (p := ⟨g, i * 4 + 1, none⟩) hg).trans h.p, (hb.cell (p := ⟨g, i * 4 + 2, none⟩) hg).trans h.s, (hb.cell (p := ⟨g, i * 4 + 3, none⟩) hg).trans h.n⟩

set_option maxHeartbeats 2000000 in
theorem lexJoins_walk (a b : List UInt8) (w : World) (hs : Sg w) (hla : a.length ≤ maxLen) (hlb : b.length ≤ maxLen) :
    Calls Tryd.prog 5 #[.string (bs a), .string (bs b)] w fun e w' => e = .returned (.bool true) ∧ Below w.heap.size w w' := by
  unfold maxLen at hla hlb
  have HL : Hid (∀ w', Below w.heap.size w w' → Calls Tryd.prog 8 #[] w' fun e w'' => e = .returned (.bool true) ∧ Below w.heap.size w w'') := by
    intro w' hb
    exact (lxlives_any w' (hs.below hb)).mono fun e w'' h => ⟨h.1, hb.trans (h.2.mono hb.size)⟩
  obtain ⟨R, hR⟩ : ∃ R, R = wordsF a := ⟨_, rfl⟩
  obtain ⟨R2, hR2⟩ : ∃ R2, R2 = wordsF b := ⟨_, rfl⟩
  have hwa := words_any a w hs R hR
  have hsa := bs_size a
  have hsb := bs_size b
  cases R with
  | inl px =>
    obtain ⟨p, x⟩ := px
    have hx := wordsF_err hR.symm
    have hx1 : ((x : Int) != 0) = true := bne_iff_ne.2 (by omega)
    have HW2 : Hid (∀ w', Below w.heap.size w w' → Calls Tryd.prog 9 #[.string (bs b)] w' fun e w'' => ∃ (v : Value) (p x : Nat), e = .returned (.tuple #[v, .int .i64 (p : Int), .int .i64 (x : Int)]) ∧ Below w.heap.size w w'') :=
      fun w' hb => (words_some b w' (hs.below hb)).mono fun e w'' ⟨v, p, x, h1, h2⟩ => ⟨v, p, x, h1, hb.trans (h2.mono hb.size)⟩
    clear hR hR2 hx hs
    generalize bs a = A at *
    generalize bs b = B at *
    go_enter Tryd.func5, Tryd.ntmps5
    go_wp2_with fail
    refine hwa.mono ?_
    rintro e w1 ⟨rfl, hb1⟩
    have hw2 := HW2.out w1 hb1
    clear hwa
    go_wp2_with fail
    refine hw2.mono ?_
    rintro e w2 ⟨v2, p2, x2, rfl, hb2⟩
    have hlv := HL.out w2 hb2
    clear hw2 hb1 hb2
    go_wp2_with fail
    refine hlv.mono ?_
    rintro e w3 ⟨rfl, hb3⟩
    have HB : Hid _ := hb3
    clear hb3 hlv
    go_wp2
    go_ret
    exact ⟨rfl, HB.out⟩
  | inr x =>
    have hgx := wordsF_good hR.symm
    have hcx := words_count hR.symm
    have hwb : ∀ w', Below w.heap.size w w' → Calls Tryd.prog 9 #[.string (bs b)] w' (Wrds R2 w') := fun w' hb => words_any b w' (hs.below hb) R2 hR2
    have HWB : Hid (∀ w', Below w.heap.size w w' → Calls Tryd.prog 9 #[.string (bs b)] w' (Wrds R2 w')) := hwb
    clear hwb
    have hxpos : 0 < x.length := by obtain ⟨_, _, ⟨ts', h⟩, _⟩ := hgx; rw [h]; simp
    cases R2 with
    | inl px =>
      obtain ⟨p2, x2⟩ := px
      have hx := wordsF_err hR2.symm
      have hx1 : ((x2 : Int) != 0) = true := bne_iff_ne.2 (by omega)
      clear hR hR2 hx hs hgx
      generalize bs a = A at *
      generalize bs b = B at *
      go_enter Tryd.func5, Tryd.ntmps5
      go_wp2_with fail
      refine hwa.mono ?_
      rintro e w1 ⟨v, rfl, hto, hb1⟩
      have hw2 := HWB.out w1 hb1
      clear hwa
      go_wp2_with fail
      refine hw2.mono ?_
      rintro e w2 ⟨rfl, hb2⟩
      have hlv := HL.out w2 (hb1.trans (hb2.mono hb1.size))
      clear hw2 hb1 hb2 hto
      go_wp2_with fail
      refine hlv.mono ?_
      rintro e w3 ⟨rfl, hb3⟩
      have HB : Hid _ := hb3
      clear hb3 hlv
      go_wp2
      go_ret
      exact ⟨rfl, HB.out⟩
    | inr y =>
      have hgy := wordsF_good hR2.symm
      have hcy := words_count hR2.symm
      have hypos : 0 < y.length := by obtain ⟨_, _, ⟨ts', h⟩, _⟩ := hgy; rw [h]; simp
      have ha6 : a.length ≤ 65536 := hgx.2.2.2
      have hb6 : b.length ≤ 65536 := hgy.2.2.2
      by_cases cl : a.length + b.length + 1 ≤ 65536 ∧ x.length + y.length ≤ 16384
      · obtain ⟨cl1, cl2⟩ := cl
        obtain ⟨xs, hxs, hj⟩ := wordsF_join hR.symm hR2.symm cl1 cl2
        have HWZ : Hid (∀ w', Below w.heap.size w w' → Calls Tryd.prog 9 #[.string (bs (a ++ 10 :: b))] w' (Wrds (.inr (xs ++ y.map (sh (a.length + 1)))) w')) := fun w' hb => words_any _ w' (hs.below hb) _ hj.symm
        obtain ⟨z, hz⟩ : ∃ z, z = xs ++ y.map (sh (a.length + 1)) := ⟨_, rfl⟩
        rw [← hz] at HWZ
        have hbs : bs (a ++ 10 :: b) = bs a ++ ⟨#[10]⟩ ++ bs b := by
          rw [show (⟨#[10]⟩ : ByteArray) = bs [10] from rfl, bs_append, bs_append, List.append_assoc]; rfl
        rw [hbs] at HWZ
        have hzs1 : (bs a ++ ⟨#[10]⟩).size ≤ 65537 := by rw [show (⟨#[10]⟩ : ByteArray) = bs [10] from rfl, bs_append, bs_size, List.length_append]; simp; omega
        have hzs2 : (bs a ++ ⟨#[10]⟩ ++ bs b).size ≤ 65537 := by rw [← hbs, bs_size, List.length_append, List.length_cons]; omega
        have hsd : ∃ sd C, bs a ++ ⟨#[10]⟩ = sd ∧ sd ++ bs b = C := ⟨_, _, rfl, rfl⟩
        obtain ⟨sd, C, hsd, hC⟩ := hsd
        rw [hsd] at hzs1 hzs2 HWZ
        rw [hC] at hzs2 HWZ
        have hzl : z.length = xs.length + y.length := by rw [hz, List.length_append, List.length_map]
        have hxl : x.length = xs.length + 1 := by rw [hxs]; simp
        have HZX : Hid (∀ i, i < xs.length → ∃ t, z[i]? = some t ∧ x[i]? = some t) := by
          intro i hi
          refine ⟨xs[i], ?_, ?_⟩
          · rw [hz, List.getElem?_append_left hi, List.getElem?_eq_getElem hi]
          · rw [hxs, List.getElem?_append_left hi, List.getElem?_eq_getElem hi]
        have HZY : Hid (∀ i, i < y.length → ∃ t, y[i]? = some t ∧ z[xs.length + i]? = some (sh (a.length + 1) t)) := by
          intro i hi
          refine ⟨y[i], List.getElem?_eq_getElem hi, ?_⟩
          rw [hz, List.getElem?_append_right (by omega), Nat.add_sub_cancel_left, List.getElem?_map, List.getElem?_eq_getElem hi]; rfl
        have HYP : Hid (∀ t ∈ y, t.pos ≤ b.length) := fun t ht => (hgy.2.1 t ht).1
        have hzpos : 0 < z.length := by omega
        obtain ⟨m, hm⟩ : ∃ m, xs.length = m := ⟨_, rfl⟩
        rw [hm] at hzl hxl HZX HZY
        have HXL : Hid (x.length = m + 1) := hxl
        have HYL : Hid (0 < y.length) := hypos
        obtain ⟨Y, hY⟩ : ∃ Y, y.length = Y := ⟨_, rfl⟩
        rw [hY] at hzl HZY
        have HYE : Hid (y.length = Y) := hY
        have HZE : Hid (z.length = m + Y) := hzl
        have g1 : ¬ (a.length : Int) + (b.length : Int) + 1 > 65536 := by omega
        have g2 : ¬ (m : Int) + 1 + (Y : Int) > 16384 := by omega
        have gd1 : decide ((65536 : Int) < (a.length : Int) + (b.length : Int) + 1) = false := decide_eq_false (by omega)
        have gd2 : decide ((16384 : Int) < (m : Int) + 1 + (Y : Int)) = false := decide_eq_false (by omega)
        have gm : m ≤ 16384 := by omega
        have gY : Y ≤ 16384 := by omega
        have hxp : Hid (0 < x.length) := hxpos
        have hzp : Hid (0 < z.length) := hzpos
        clear hR hR2 hs hgx hgy hxs hj hz hbs hm hxl hzl hY cl2 hypos hxpos hzpos hcx hcy
        generalize bs a = A at *
        generalize bs b = B at *
        generalize a.length = la at *
        generalize b.length = lb at *
        go_enter Tryd.func5, Tryd.ntmps5
        go_wp2_with fail
        refine hwa.mono ?_
        rintro e w1 ⟨vx, rfl, htx, hb1⟩
        have hw2 := HWB.out w1 hb1
        obtain ⟨gx, cx, rfl, bx1, bx2⟩ := htx.shape hxp.out
        have hcx := htx.capp hxp.out
        rw [HXL.out] at hcx ⊢
        have HTX : Hid (∀ i t, x[i]? = some t → Tc w1 gx i t) := fun i t hi => htx.tc hi
        clear hwa htx
        go_wp2_with fail
        refine hw2.mono ?_
        rintro e w2 ⟨vy, rfl, hty, hb2⟩
        have hw3 := HWZ.out w2 (hb1.trans (hb2.mono hb1.size))
        obtain ⟨gy, cy, rfl, by1, by2⟩ := hty.shape HYL.out
        have hcy := hty.capp HYL.out
        rw [HYE.out] at hcy ⊢
        have HTY : Hid (∀ i t, y[i]? = some t → Tc w2 gy i t) := fun i t hi => hty.tc hi
        have HB12 : Hid (Below w.heap.size w w1 ∧ Below w1.heap.size w1 w2) := ⟨hb1, hb2⟩
        clear hw2 hty hb1 hb2 hxp HXL
        go_wp2_with fail
        refine hw3.mono ?_
        rintro e w3 ⟨vz, rfl, htz, hb3⟩
        obtain ⟨gz, cz, rfl, bz1, bz2⟩ := htz.shape hzp.out
        have hcz := htz.capp hzp.out
        rw [HZE.out] at hcz ⊢
        have HB23 : Hid (Below w2.heap.size w2 w3) := hb3
        have HT3 : Hid (∀ i t, z[i]? = some t → Tc w3 gz i t) := fun i t hi => htz.tc hi
        have HX3 : Hid (∀ i t, x[i]? = some t → Tc w3 gx i t) := fun i t hi => ((HTX.out i t hi).below HB12.out.2).below hb3
        have HY3 : Hid (∀ i t, y[i]? = some t → Tc w3 gy i t) := fun i t hi => (HTY.out i t hi).below hb3
        have hsame : ∀ q, Calls Tryd.prog 11 #[.slice (some ⟨gz, 0, none⟩) m cz, .slice (some ⟨gx, 0, none⟩) m cx] (w3.drewN q) fun e w' => e = .returned (.bool true) ∧ ∃ n, w' = w3.drewN n := by
          intro q
          refine (lxsame_any gz gx m cz cx (w3.drewN q) (by omega) (fun i hi => ?_)).mono fun e w' ⟨h1, q2, h2⟩ => ⟨h1, q + q2, by rw [h2]; simp⟩
          obtain ⟨t, h1, h2⟩ := HZX.out i hi
          exact ⟨t, (HT3.out i t h1).below (below_dr _ _ _), (HX3.out i t h2).below (below_dr _ _ _)⟩
        have HB3 : Hid (Below w.heap.size w w3) := (HB12.out.1.trans (HB12.out.2.mono HB12.out.1.size)).trans (hb3.mono (HB12.out.1.trans (HB12.out.2.mono HB12.out.1.size)).size)
        have gx3 : gx < w3.heap.size := by have := HB12.out.2.size; have := hb3.size; omega
        have gy3 : gy < w3.heap.size := by have := hb3.size; omega
        have gd3 : (((m + Y : Nat) : Int) != (m : Int) + 1 + (Y : Int) - 1) = false := by rw [bne_eq_false_iff_eq]; omega
        have gd4 : ((m : Int) + (Y : Int) != (m : Int) + 1 + (Y : Int) - 1) = false := by rw [bne_eq_false_iff_eq]; omega
        have gc1 : (m : Int) ≤ (cz : Int) := by omega
        have gc2 : (m : Int) ≤ (cx : Int) := by omega
        clear hw3 htz hb3 HTX HTY HWB HWZ HZX HX3 hzp HYL
        go_upto_region 6 with fail
        go_cut [87] (fun b wc => b = .bool false ∧ ∃ q, wc = w3.drewN q)
        case first =>
          go_big_quiet ((go_at_call 11; exact hsame _))
          go_wp2_with fail
          go_meet
          case rel => exact ⟨rfl, nq, rfl⟩
        case rest =>
          obtain ⟨rfl, q3, rfl⟩ := hcut
          clear hsame gd3 gd4
          go_wp2_with fail
          go_loopg [14, 15] Y (fun k t14 _ wr => ∃ i : Nat, t14 = .int .i64 (i : Int) ∧ i ≤ Y ∧ k = Y - i ∧ Hid (Below w3.heap.size w3 wr))
          case atStart => exact ⟨0, rfl, by omega, rfl, below_dr _ _ _⟩
          case round =>
            obtain ⟨i, rfl, hi, hk, HBr⟩ := hrel
            by_cases c : i < Y
            · obtain ⟨t, hy, hzz⟩ := HZY.out i c
              have hyc := (HY3.out i t hy).below HBr.out
              have hzc := (HT3.out (m + i) _ hzz).below HBr.out
              have y0 := hyc.k
              have y1 := hyc.p
              have y2 := hyc.s
              have y3 := hyc.n
              have z0 : wr.cell? ⟨gz, (m + i) * 4, none⟩ = some (.int .i64 (t.k : Int)) := hzc.k
              have z1 : wr.cell? ⟨gz, (m + i) * 4 + 1, none⟩ = some (.int .i64 ((t.pos : Int) + (la : Int) + 1)) := by
                rw [hzc.p]
                show some (Value.int .i64 ((t.pos + (la + 1) : Nat) : Int)) = _
                congr 2
              have z2 : wr.cell? ⟨gz, (m + i) * 4 + 2, none⟩ = some (.string (bs t.s)) := hzc.s
              have z3 : wr.cell? ⟨gz, (m + i) * 4 + 3, none⟩ = some (.int .u64 (t.n : Int)) := hzc.n
              have hzr : gz < wr.heap.size := by have := HBr.out.size; omega
              have ci : (i : Int) < (Y : Int) := by omega
              have hpb : t.pos ≤ 65536 := by have := HYP.out t (List.mem_of_getElem? hy); omega
              generalize t.k = tk at *
              generalize t.pos = tp at *
              generalize bs t.s = ts at *
              generalize t.n = tn at *
              obtain ⟨w5, hw5⟩ : ∃ w5, w5 = wr.alloc (.cells #[.int .i64 (tk : Int), .int .i64 ((tp : Int) + (la : Int) + 1), .string ts, .int .u64 (tn : Int)] 31) := ⟨_, rfl⟩
              have hb5 : Below wr.heap.size wr w5 := by rw [hw5]; exact (Below.refl _ _).alloc (Nat.le_refl _) _
              have v0 : w5.cell? ⟨gz, (m + i) * 4, none⟩ = some (.int .i64 (tk : Int)) := (hb5.cell (p := ⟨gz, (m + i) * 4, none⟩) hzr).trans z0
              have v1 : w5.cell? ⟨gz, (m + i) * 4 + 1, none⟩ = some (.int .i64 ((tp : Int) + (la : Int) + 1)) := (hb5.cell (p := ⟨gz, (m + i) * 4 + 1, none⟩) hzr).trans z1
              have v2 : w5.cell? ⟨gz, (m + i) * 4 + 2, none⟩ = some (.string ts) := (hb5.cell (p := ⟨gz, (m + i) * 4 + 2, none⟩) hzr).trans z2
              have v3 : w5.cell? ⟨gz, (m + i) * 4 + 3, none⟩ = some (.int .u64 (tn : Int)) := (hb5.cell (p := ⟨gz, (m + i) * 4 + 3, none⟩) hzr).trans z3
              have n0 : w5.cell? ⟨wr.heap.size, 0, none⟩ = some (.int .i64 (tk : Int)) := by rw [hw5, World.cell?_alloc_at _ _ _ _ rfl]; rfl
              have n1 : w5.cell? ⟨wr.heap.size, 1, none⟩ = some (.int .i64 ((tp : Int) + (la : Int) + 1)) := by rw [hw5, World.cell?_alloc_at _ _ _ _ rfl]; rfl
              have n2 : w5.cell? ⟨wr.heap.size, 2, none⟩ = some (.string ts) := by rw [hw5, World.cell?_alloc_at _ _ _ _ rfl]; rfl
              have n3 : w5.cell? ⟨wr.heap.size, 3, none⟩ = some (.int .u64 (tn : Int)) := by rw [hw5, World.cell?_alloc_at _ _ _ _ rfl]; rfl
              have HB5 : Hid (Below w3.heap.size w3 w5) := HBr.out.trans (hb5.mono HBr.out.size)
              clear hyc hzc hy hzz HY3 HT3 HZY hb5 z0 z1 z2 z3
              go_upto_region 13 with fail
              rw [← hw5]
              clear hw5 y0 y1 y2 y3
              obtain ⟨j, hj⟩ : ∃ j, m + i = j := ⟨_, rfl⟩
              rw [hj] at v0 v1 v2 v3
              have hj2 : (m : Int) + (i : Int) = (j : Int) := by omega
              have hj3 : (m : Int) + 1 - 1 + (i : Int) = (j : Int) := by omega
              have hj4 : (j : Int) < ((m + Y : Nat) : Int) := by omega
              have hj5 : j < m + Y := by omega
              clear hj
              go_cut [114] (fun b wc => b = .bool false ∧ ∃ q, wc = w5.drewN q)
              case first =>
                go_quiet (fail)
                go_wp2_with fail
                go_meet
                case rel => exact ⟨by first | rfl | simp, nq, rfl⟩
              case rest =>
                obtain ⟨rfl, q5, rfl⟩ := hcut
                clear v0 v1 v2 v3 n0 n1 n2 n3 hj2 hj3 hj4 hj5
                go_wp2_with fail
                go_roundg (Y - (i + 1))
                case measure => omega
                case rel => exact ⟨i + 1, by go_num, by omega, rfl, below_drewN HB5.out q5⟩
            · have ci : ¬ (i : Int) < (Y : Int) := by omega
              have hlv := HL.out wr (HB3.out.trans (HBr.out.mono HB3.out.size))
              clear HY3 HT3 HZY HBr
              go_wp2_with fail
              refine hlv.mono ?_
              rintro e w6 ⟨rfl, hb6⟩
              have HB : Hid _ := hb6
              clear hb6 hlv
              go_wp2
              go_ret
              exact ⟨rfl, HB.out⟩
      · have HC : Hid (¬ (a.length + b.length + 1 ≤ 65536 ∧ x.length + y.length ≤ 16384)) := cl
        have HXP : Hid (0 < x.length) := hxpos
        have HYP : Hid (0 < y.length) := hypos
        obtain ⟨X, hX⟩ : ∃ X, x.length = X := ⟨_, rfl⟩
        obtain ⟨Y, hY⟩ : ∃ Y, y.length = Y := ⟨_, rfl⟩
        have HXE : Hid (x.length = X) := hX
        have HYE : Hid (y.length = Y) := hY
        rw [hX] at hcx
        rw [hY] at hcy
        rw [hX, hY] at HC
        clear cl hR hR2 hs hgx hgy hxpos hypos hX hY
        generalize bs a = A at *
        generalize bs b = B at *
        generalize a.length = la at *
        generalize b.length = lb at *
        have hcase : (decide ((65536 : Int) < (la : Int) + (lb : Int) + 1) = true) ∨ (decide ((65536 : Int) < (la : Int) + (lb : Int) + 1) = false ∧ decide ((16384 : Int) < (X : Int) + (Y : Int)) = true) := by
          by_cases h : la + lb + 1 ≤ 65536
          · exact Or.inr ⟨decide_eq_false (by omega), decide_eq_true (by have := HC.out; omega)⟩
          · exact Or.inl (decide_eq_true (by omega))
        rcases hcase with g1 | ⟨g1, g2⟩
        all_goals
          go_enter Tryd.func5, Tryd.ntmps5
          go_wp2_with fail
          refine hwa.mono ?_
          rintro e w1 ⟨vx, rfl, htx, hb1⟩
          have hw2 := HWB.out w1 hb1
          obtain ⟨gx, cx, rfl, bx1, bx2⟩ := htx.shape HXP.out
          rw [HXE.out]
          clear hwa htx
          go_wp2_with fail
          refine hw2.mono ?_
          rintro e w2 ⟨vy, rfl, hty, hb2⟩
          have hlv := HL.out w2 (hb1.trans (hb2.mono hb1.size))
          obtain ⟨gy, cy, rfl, by1, by2⟩ := hty.shape HYP.out
          rw [HYE.out]
          clear hw2 hty hb1 hb2
          go_wp2_with fail
          refine hlv.mono ?_
          rintro e w6 ⟨rfl, hb6'⟩
          have HB : Hid _ := hb6'
          clear hb6' hlv
          go_wp2
          go_ret
          exact ⟨rfl, HB.out⟩

end Go.Proofs.YtfhoimfjfbbhaaaDoor
