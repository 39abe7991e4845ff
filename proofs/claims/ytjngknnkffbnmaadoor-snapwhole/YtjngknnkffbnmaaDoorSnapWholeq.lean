/-
  SnapWhole: a part of a snapshot's bytes, or these with a bit turned about, are refused, walked.
-/
import Derived.Test.YtjngknnkffbnmaaDoorSnapSavesq
import Derived.Test.YtjngknnkffbnmaaDoorSnPlain2q
import Derived.Test.YtjngknnkffbnmaaDoorCdAppq
import Derived.Test.YtjngknnkffbnmaaDoorFrTurnedq
namespace Go.Proofs.YtjngknnkffbnmaaDoor
set_option maxRecDepth 100000
open Go.RowKit Crc Sn

namespace Sn
theorem save_frm {s : Sp} {b : List Nat} (h : saveV s = .inr b) : ∃ m, b = frm m ∧ m.length ≤ 1048576 := by
  unfold saveV at h
  split at h
  · cases h
  · split at h
    · cases h
    · cases e : encT (snapT s) 64 [] with
      | inl y => rw [e] at h; cases h
      | inr m =>
        rw [e] at h
        injection h with h
        exact ⟨m, h.symm, (enc_top e).2.1⟩
/-- What a part of a snapshot's bytes comes to. -/
theorem whole_cut {s : Sp} {b : List Nat} (h : saveV s = .inr b) {i : Nat} (hi : i < b.length) : loadV (b.take i) = (false, zS) := by
  obtain ⟨m, rfl, hl⟩ := save_frm h
  refine load_bad ?_
  rw [frm_cut hl hi]
  decide
/-- What they come to with a bit turned about. -/
theorem whole_flip {s : Sp} {b : List Nat} (h : saveV s = .inr b) (hs : Sm8 b) (at0 : Nat) : loadV (b.set (4 + at0 % (b.length - 4)) (b.getD (4 + at0 % (b.length - 4)) 0 ^^^ 2 ^ (at0 % 8))) = (false, zS) := by
  obtain ⟨m, rfl, hl⟩ := save_frm h
  have hm : Sm8 m := by
    have := hs.drop 8
    have e8 : (frm m).drop 8 = m := by unfold frm be4; simp
    rw [e8] at this
    exact this
  have hlen := frm_length m
  have hq : at0 % ((frm m).length - 4) < m.length + 4 := by
    have := Nat.mod_lt at0 (show 0 < (frm m).length - 4 by omega)
    omega
  generalize at0 % ((frm m).length - 4) = q at *
  have hk : 8 * q + at0 % 8 < 8 * (m.length + 4) := by omega
  have := frm_flip hm hl hk
  have e : flp (frm m) (8 * q + at0 % 8) = (frm m).set (4 + q) ((frm m).getD (4 + q) 0 ^^^ 2 ^ (at0 % 8)) := by
    unfold flp
    rw [show (8 * q + at0 % 8) / 8 = q by omega, show (8 * q + at0 % 8) % 8 = at0 % 8 by omega]
  rw [← e]
  refine load_bad ?_
  rw [this]
  decide
theorem save_long {s : Sp} {b : List Nat} (h : saveV s = .inr b) : 8 ≤ b.length ∧ b.length ≤ 1048584 := by
  obtain ⟨m, rfl, hl⟩ := save_frm h
  rw [frm_length]
  omega
end Sn

set_option maxHeartbeats 8000000 in
theorem snapWhole_walk (z : Sp) (mv : Value) (k1 k2 : Int) (n1 n2 : Nat) (s1 s2 : ByteArray) (u1 u2 : Value) (at0 : Nat) (w : World) (hm : NR w mv z.ms) (h1 : CR w z.ss (cellV k1 n1 s1 u1)) (h2 : CR w z.st (cellV k2 n2 s2 u2)) (hix : z.ix < 18446744073709551616) (htm : z.tm < 18446744073709551616) (hml : z.ms.length ≤ 17592186044416) (hat : at0 < 65536) (hT : Tb w) (h0 : 0 < w.heap.size) :
    Calls Tryd.prog 5 #[.agg #[.int .u64 z.ix, .int .u64 z.tm, mv, .int .i64 k1, .int .u64 n1, .string s1, u1, .int .i64 k2, .int .u64 n2, .string s2, u2], .int .u16 at0] w fun e w' => e = .returned (.bool true) ∧ Below w.heap.size w w' := by
  have HLV : Hid (∀ w', Below w.heap.size w w' → Calls Tryd.prog 8 #[] w' fun e w'' => e = .returned (.bool true) ∧ Below w'.heap.size w' w'') := fun w' hb => slives_any w' (hT.below hb h0) (Nat.lt_of_lt_of_le h0 hb.size)
  have HSM1 : Hid (∀ w', Below w.heap.size w w' → Calls Tryd.prog 7 #[cellV k1 n1 s1 u1] w' fun e w'' => ∃ ok : Bool, e = .returned (.bool ok) ∧ (ok = true → z.ss.cnt ≤ 2000 ∧ z.ss.dep ≤ 100) ∧ Below w'.heap.size w' w'') := fun w' hb => lawSmall19_any _ _ w' (h1.kept hb (Nat.le_refl _))
  have HSM2 : Hid (∀ w', Below w.heap.size w w' → Calls Tryd.prog 7 #[cellV k2 n2 s2 u2] w' fun e w'' => ∃ ok : Bool, e = .returned (.bool ok) ∧ (ok = true → z.st.cnt ≤ 2000 ∧ z.st.dep ≤ 100) ∧ Below w'.heap.size w' w'') := fun w' hb => lawSmall19_any _ _ w' (h2.kept hb (Nat.le_refl _))
  have HOW : Hid (z.ss.cnt ≤ 2000 → z.st.cnt ≤ 2000 → ∀ w', Below w.heap.size w w' → Calls Tryd.prog 10 #[.agg #[.int .u64 z.ix, .int .u64 z.tm, mv, .int .i64 k1, .int .u64 n1, .string s1, u1, .int .i64 k2, .int .u64 n2, .string s2, u2]] w' (OwR w' z)) := fun c1 c2 w' hb => lawOwn19_any z mv k1 k2 n1 n2 s1 s2 u1 u2 w' (hm.kept hb (Nat.le_refl _)) hml (h1.kept hb (Nat.le_refl _)) (h2.kept hb (Nat.le_refl _)) (by omega) (by omega)
  have HSV : Hid (∀ mv' k1' k2' n1' n2' s1' s2' u1' u2' w', NR w' mv' z.ms → CR w' z.ss (cellV k1' n1' s1' u1') → CR w' z.st (cellV k2' n2' s2' u2') → Below w.heap.size w w' → Calls Tryd.prog 9 #[.agg #[.int .u64 z.ix, .int .u64 z.tm, mv', .int .i64 k1', .int .u64 n1', .string s1', u1', .int .i64 k2', .int .u64 n2', .string s2', u2']] w' (Encd (saveV z) w')) := fun mv' k1' k2' n1' n2' s1' s2' u1' u2' w' g1 g2 g3 hb => lSave_any z mv' k1' k2' n1' n2' s1' s2' u1' u2' w' g1 g2 g3 hix htm (hT.below hb h0) (Nat.lt_of_lt_of_le h0 hb.size)
  have HLD : Hid (∀ l v' w', loadV l = (false, zS) → BR w' v' l → Below w.heap.size w w' → Calls Tryd.prog 14 #[v'] w' (LdP w' zS 4)) := by
    intro l v' w' he hb hbl
    have := lLoad_any v' l w' hb (hT.below hbl h0) (Nat.lt_of_lt_of_le h0 hbl.size)
    unfold LdR at this
    rw [he] at this
    exact this
  obtain ⟨a, cap, rfl, hn1, hn2, -, -⟩ := hm.form
  obtain ⟨-, -, -, a1, c1, rfl⟩ := crTop h1
  obtain ⟨-, -, -, a2, c2, rfl⟩ := crTop h2
  clear hm h1 h2 hT h0 hix htm hml
  obtain ⟨ix, tm, ms, ss, st⟩ := z
  simp only at HLV HSM1 HSM2 HOW HLD ⊢
  generalize ss.l.length = m1 at *
  generalize st.l.length = m2 at *
  unfold cellV at HSM1 HSM2
  obtain ⟨w1, hw1⟩ : ∃ w1, w1 = w.alloc (.cells #[.int .u64 ix, .int .u64 tm, .slice a ms.length cap, .int .i64 k1, .int .u64 n1, .string s1, .slice a1 m1 c1, .int .i64 k2, .int .u64 n2, .string s2, .slice a2 m2 c2] 28) := ⟨_, rfl⟩
  have HS1 : Hid (w1.heap.size = w.heap.size + 1) := by show _ = _; rw [hw1]; simp
  have HB1 : Hid (Below w.heap.size w w1) := by show Below _ _ _; rw [hw1]; exact (Below.refl _ _).alloc (Nat.le_refl _) _
  have HX : Hid (∀ wq, Below w1.heap.size w1 wq → wq.heap[w.heap.size]? = some (.cells #[.int .u64 ix, .int .u64 tm, .slice a ms.length cap, .int .i64 k1, .int .u64 n1, .string s1, .slice a1 m1 c1, .int .i64 k2, .int .u64 n2, .string s2, .slice a2 m2 c2] 28 (0, 0)) ∧ Below w.heap.size w wq) := fun wq hq => by
    have := HS1.out
    refine ⟨(hq.block _ (by omega)).trans ?_, HB1.out.trans (hq.mono (by omega))⟩
    rw [hw1]
    exact heap_alloc_new _ _
  obtain ⟨x0, x1, x2, x3, x4, x5, x6, x7, x8, x9, x10⟩ := block11 (HX.out w1 (Below.refl _ _)).1
  go_enter Tryd.func5, Tryd.ntmps5
  go_upto_region 1 with fail
  rw [← hw1]
  clear hw1
  go_wp2_with fail
  refine (HSM1.out w1 HB1.out).mono ?_
  rintro e w2 ⟨ok, rfl, hok, hb2⟩
  have HB2 := hide_p hb2
  clear x0 x1 x2 x3 x4 x5 x6 x7 x8 x9 x10 hb2 HSM1
  cases ok with
  | false =>
    have hl := HLV.out w2 (HX.out w2 HB2.out).2
    clear hok
    go_wp2_with fail
    refine hl.mono ?_
    rintro e w3 ⟨rfl, hb3⟩
    have HBw : Hid (Below w.heap.size w w3) := (HX.out w2 HB2.out).2.trans (hb3.mono (HX.out w2 HB2.out).2.size)
    clear hl hb3
    go_wp2
    go_ret
    exact ⟨rfl, HBw.out⟩
  | true =>
    have HC1 := hide_p (hok rfl).1
    clear hok
    obtain ⟨x0, x1, x2, x3, x4, x5, x6, x7, x8, x9, x10⟩ := block11 (HX.out w2 HB2.out).1
    go_wp2_with fail
    refine (HSM2.out w2 (HX.out w2 HB2.out).2).mono ?_
    rintro e w3 ⟨ok, rfl, hok, hb3⟩
    have HB3 : Hid (Below w1.heap.size w1 w3) := HB2.out.trans (hb3.mono HB2.out.size)
    clear x0 x1 x2 x3 x4 x5 x6 x7 x8 x9 x10 hb3 HSM2
    cases ok with
    | false =>
      have hl := HLV.out w3 (HX.out w3 HB3.out).2
      clear hok
      go_wp2_with fail
      refine hl.mono ?_
      rintro e w4 ⟨rfl, hb4⟩
      have HBw : Hid (Below w.heap.size w w4) := (HX.out w3 HB3.out).2.trans (hb4.mono (HX.out w3 HB3.out).2.size)
      clear hl hb4
      go_wp2
      go_ret
      exact ⟨rfl, HBw.out⟩
    | true =>
      have HC2 := hide_p (hok rfl).1
      clear hok
      obtain ⟨x0, x1, x2, x3, x4, x5, x6, x7, x8, x9, x10⟩ := block11 (HX.out w3 HB3.out).1
      go_wp2_with fail
      refine (HOW.out HC1.out HC2.out w3 (HX.out w3 HB3.out).2).mono ?_
      rintro e w4 ⟨a4, c4, k41, k42, n41, n42, s41, s42, u41, u42, rfl, hn4, hc41, hc42, hb4⟩
      have HB4 : Hid (Below w1.heap.size w1 w4) := HB3.out.trans (hb4.mono HB3.out.size)
      have hsv := HSV.out _ _ _ _ _ _ _ _ _ w4 hn4 hc41 hc42 (HX.out w4 HB4.out).2
      obtain ⟨-, -, -, a41, c41, rfl⟩ := crTop hc41
      obtain ⟨-, -, -, a42, c42, rfl⟩ := crTop hc42
      simp only at hsv ⊢
      clear x0 x1 x2 x3 x4 x5 x6 x7 x8 x9 x10 hn4 hc41 hc42 hb4 HOW HSV
      generalize ss.l.length = m41 at *
      generalize st.l.length = m42 at *
      go_wp2_with fail
      refine hsv.mono ?_
      rintro e w5 ⟨v5, q5, rfl, hb5, hen5⟩
      have HW4 : Hid (Below w.heap.size w w4) := (HX.out w4 HB4.out).2
      have HB5 : Hid (Below w.heap.size w w5) := HW4.out.trans (hb5.mono HW4.out.size)
      clear hsv hb5 HX HB1 HB2 HB3 HB4 HS1
      cases hS : saveV ⟨ix, tm, ms, ss, st⟩ with
      | inl y =>
        rw [hS] at hen5
        obtain ⟨rfl, rfl⟩ := hen5
        have hy := save_err hS
        have hl := HLV.out w5 HB5.out
        clear hS HLD
        rcases hy with rfl | rfl
        · go_wp2_with fail
          refine hl.mono ?_
          rintro e w6 ⟨rfl, hb6⟩
          have HBw : Hid (Below w.heap.size w w6) := HB5.out.trans (hb6.mono HB5.out.size)
          clear hl hb6
          go_wp2
          go_ret
          exact ⟨rfl, HBw.out⟩
        · go_wp2_with fail
          refine hl.mono ?_
          rintro e w6 ⟨rfl, hb6⟩
          have HBw : Hid (Below w.heap.size w w6) := HB5.out.trans (hb6.mono HB5.out.size)
          clear hl hb6
          go_wp2
          go_ret
          exact ⟨rfl, HBw.out⟩
      | inr b =>
        rw [hS] at hen5
        obtain ⟨o5, rfl⟩ := hen5
        obtain ⟨hb8, hb9⟩ := save_long hS
        have HCUT : Hid (∀ i, i < b.length → loadV (b.take i) = (false, zS)) := fun i hi => whole_cut hS hi
        have HFLP := hide_p (whole_flip hS o5.1 at0)
        obtain ⟨g5, cap5, rfl, hg5, hcp5, hcm5⟩ := o5.slice (by omega)
        have HO5 : Hid (OW w5 w.heap.size (.slice (some ⟨g5, 0, none⟩) b.length cap5) b) := o5.base HW4.out.size
        have b5 := o5.br
        have HG5 : Hid (w.heap.size ≤ g5) := Nat.le_trans HW4.out.size hg5
        unfold maxLen at hcm5
        clear hS o5 hg5
        obtain ⟨N, hN⟩ : ∃ N, N = b.length := ⟨_, rfl⟩
        have HN : Hid (N = b.length) := hN
        obtain ⟨K, hK⟩ : ∃ K, K = at0 % N := ⟨_, rfl⟩
        rw [← hN] at hb8 hb9 hcp5 ⊢
        have hKN : K < N := by rw [hK]; exact Nat.mod_lt _ (by omega)
        have hKi : (at0 : Int).tmod (N : Int) = (K : Int) := by rw [hK]; rfl
        have hN0 : ¬ (N : Int) = 0 := by omega
        have hN8 : ¬ (N : Int) < 8 := by omega
        have hKc : (K : Int) ≤ (cap5 : Int) := by omega
        have oe := OW_empty w5
        have bk : BR (w5.alloc (.cells #[] 5)) (.slice (some ⟨g5, 0, none⟩) K cap5) (b.take K) := by
          have := b5.head (hi := K) (by rw [← hN]; omega)
          exact this.below ((Below.refl _ _).alloc (Nat.le_refl _) _) (Nat.le_refl _)
        have hbl : (b.take K).length = K := by rw [List.length_take]; omega
        clear hK hN b5
        go_wp2_with (at_builtin; refine wpList_append_br rfl _ _ rfl w5.heap.size _ _ [] (b.take K) rfl rfl oe bk (by simp only [List.length_nil]; omega) (by simp) ?_)
        intro v6 w6 o6 g6
        have hb6 : Below w5.heap.size w5 w6 := oe.grown g6 ((Below.refl _ _).alloc (Nat.le_refl _) _) (by simp)
        have HB6 : Hid (Below w.heap.size w w6) := HB5.out.trans (hb6.mono HB5.out.size)
        have HW6 : Hid (Below w5.heap.size w5 w6) := hb6
        have hld := HLD.out (b.take K) v6 w6 (HCUT.out K (by rw [← HN.out]; exact hKN)) o6.br HB6.out
        obtain ⟨a6, cap6, rfl⟩ := ownsRow_slice o6.2
        rw [hbl] at hld ⊢
        clear oe bk o6 g6 hb6 HCUT hbl hKN hKi hKc
        go_wp2_with fail
        refine hld.mono ?_
        rintro e w7 ⟨m7, k71, k72, n71, n72, s71, s72, u71, u72, rfl, hn7, hc71, hc72, hb7⟩
        have HB7 : Hid (Below w.heap.size w w7) := HB6.out.trans (hb7.mono HB6.out.size)
        have HW7 : Hid (Below w5.heap.size w5 w7) := HW6.out.trans (hb7.mono HW6.out.size)
        obtain ⟨a7, c7, rfl, -, -, -, -⟩ := hn7.form
        obtain ⟨-, -, -, p71, d71, rfl⟩ := crTop hc71
        obtain ⟨-, -, -, p72, d72, rfl⟩ := crTop hc72
        clear hld hb7 hn7 hc71 hc72
        obtain ⟨w8, hw8⟩ : ∃ w8, w8 = w7.alloc (.cells #[.int .u64 zS.ix, .int .u64 zS.tm, .slice a7 zS.ms.length c7, .int .i64 k71, .int .u64 n71, .string s71, .slice p71 zS.ss.l.length d71, .int .i64 k72, .int .u64 n72, .string s72, .slice p72 zS.st.l.length d72] 28) := ⟨_, rfl⟩
        have HB8 : Hid (Below w.heap.size w w8) := by show Below _ _ _; rw [hw8]; exact HB7.out.alloc HB7.out.size _
        have HW8 : Hid (Below w5.heap.size w5 w8) := by show Below _ _ _; rw [hw8]; exact HW7.out.alloc HW7.out.size _
        have ho8 : OW w8 w.heap.size (.slice (some ⟨g5, 0, none⟩) N cap5) b := by rw [HN.out]; exact HO5.out.below HW8.out (Nat.le_refl _)
        obtain ⟨q, hq⟩ : ∃ q, q = at0 % (N - 4) := ⟨_, rfl⟩
        have hqN : q < N - 4 := by rw [hq]; exact Nat.mod_lt _ (by omega)
        have hqi : (at0 : Int).tmod ((N : Int) - 4) = (q : Int) := by
          rw [show (N : Int) - 4 = ((N - 4 : Nat) : Int) by omega, hq]
          rfl
        have hN4 : ¬ (N : Int) - 4 = 0 := by omega
        obtain ⟨j, hj⟩ : ∃ j, j = 4 + q := ⟨_, rfl⟩
        have hji : 4 + (q : Int) = (j : Int) := by omega
        obtain ⟨r, hr⟩ : ∃ r, r = at0 % 8 := ⟨_, rfl⟩
        have hri : (at0 : Int).tmod 8 = (r : Int) := by rw [hr]; rfl
        have hr8 : r < 8 := by omega
        have hpl : 2 ^ r < 256 := Nat.pow_lt_pow_right (a := 2) (n := 8) (by omega) hr8
        have hpi : (1 : Int) * 2 ^ r = ((2 ^ r : Nat) : Int) := by rw [Int.one_mul, Int.natCast_pow]; rfl
        rw [HN.out] at ho8
        obtain ⟨xx, e, hcell, hd⟩ := ho8.br.cell (i := j) (by rw [← HN.out]; omega)
        obtain rfl := Option.some.inj e
        rw [add_off] at hcell
        have hfr := ho8.2.frozenAt j
        have hst := ho8.stored j (b.getD j 0 ^^^ 2 ^ r) (Nat.xor_lt_two_pow (n := 8) hd hpl)
        have hx := xor_b' (b.getD j 0) (2 ^ r) hd hpl
        have HLF : Hid (loadV (b.set j (b.getD j 0 ^^^ 2 ^ r)) = (false, zS)) := by
          have := HFLP.out
          rw [← HN.out, ← hq, ← hr, ← hj] at this
          exact this
        rw [← HN.out] at hst
        generalize b.getD j 0 = d at *
        obtain ⟨p, hp⟩ : ∃ p, p = 2 ^ r := ⟨_, rfl⟩
        rw [← hp] at hst hx hpl hpi HLF
        generalize d ^^^ p = y at *
        have HB9 : Hid (Below w.heap.size w (w8.setCell ⟨g5, j, none⟩ (.int .u8 (y : Int)))) := HB8.out.setCell (p := ⟨g5, j, none⟩) HG5.out _
        have HST := hide_p hst
        have k1 : (j : Int) < (N : Int) := by omega
        have k2 : (0 : Int) ≤ (j : Int) := by omega
        have hat2 : (at0 : Int) < 65536 := by omega
        clear hst hp hr hq hj ho8 HFLP e HO5
        go_upto_region 9 with fail
        rw [← hw8]
        clear hw8
        go_upto_region 11 with fail
        obtain ⟨w9, hw9⟩ : ∃ w9, w9 = w8.setCell ⟨g5, j, none⟩ (.int .u8 (y : Int)) := ⟨_, rfl⟩
        rw [← hw9] at HB9 HST ⊢
        clear hw9
        have hld := HLD.out _ _ w9 HLF.out HST.out.br HB9.out
        clear hcell hfr hx HST HLF
        go_wp2_with fail
        refine hld.mono ?_
        rintro e w10 ⟨mA, kA1, kA2, nA1, nA2, sA1, sA2, uA1, uA2, rfl, hnA, hcA1, hcA2, hbA⟩
        have HBA : Hid (Below w.heap.size w w10) := HB9.out.trans (hbA.mono HB9.out.size)
        obtain ⟨aA, cA, rfl, -, -, -, -⟩ := hnA.form
        obtain ⟨-, -, -, pA1, dA1, rfl⟩ := crTop hcA1
        obtain ⟨-, -, -, pA2, dA2, rfl⟩ := crTop hcA2
        clear hld hbA hnA hcA1 hcA2
        obtain ⟨w11, hw11⟩ : ∃ w11, w11 = w10.alloc (.cells #[.int .u64 zS.ix, .int .u64 zS.tm, .slice aA zS.ms.length cA, .int .i64 kA1, .int .u64 nA1, .string sA1, .slice pA1 zS.ss.l.length dA1, .int .i64 kA2, .int .u64 nA2, .string sA2, .slice pA2 zS.st.l.length dA2] 28) := ⟨_, rfl⟩
        have HB11 : Hid (Below w.heap.size w w11) := by show Below _ _ _; rw [hw11]; exact HBA.out.alloc HBA.out.size _
        have hl := HLV.out w11 HB11.out
        go_upto_region 12 with fail
        rw [← hw11]
        clear hw11
        go_wp2_with fail
        refine hl.mono ?_
        rintro e w12 ⟨rfl, hb12⟩
        have HBw : Hid (Below w.heap.size w w12) := HB11.out.trans (hb12.mono HB11.out.size)
        clear hl hb12
        go_wp2
        go_ret
        exact ⟨rfl, HBw.out⟩

end Go.Proofs.YtjngknnkffbnmaaDoor
