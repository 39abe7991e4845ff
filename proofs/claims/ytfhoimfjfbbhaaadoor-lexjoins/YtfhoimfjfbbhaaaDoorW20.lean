/-
  LexBetween
-/
import Derived.Test.YtfhoimfjfbbhaaaDoorW19

/-
  LexBetween: words stand in order, with nothing but blanks and comments between them: walked.
-/
namespace Go.Proofs.YtfhoimfjfbbhaaaDoor
set_option maxRecDepth 100000
open Go.RowKit Txt Lx

set_option maxHeartbeats 1000000 in
theorem skip_stay (p : Nat) (l : List UInt8) (w : World) (hl : l.length ≤ 65536) (hp : p ≤ l.length) (h : p = l.length ∨ (isB (hb (l.drop p)) = false ∧ dd (l.drop p) = false)) :
    Calls Tryd.prog 10 #[.string (bs l), .int .i64 p] w fun e w' => e = .returned (.int .i64 p) ∧ w' = w := by
  have hsz := bs_size l
  by_cases c : p < l.length
  · obtain ⟨h1, h2⟩ : isB (hb (l.drop p)) = false ∧ dd (l.drop p) = false := by
      rcases h with h | h
      · omega
      · exact h
    have hg : (bs l)[p]'(by omega) = hb (l.drop p) := by rw [bs_get, List.drop_eq_getElem_cons c]; rfl
    have n1 : ∀ d : UInt8, isB d = true → ¬ ((hb (l.drop p)).toNat : Int) = (d.toNat : Int) := by
      intro d hd e
      rw [u8_int.2 e] at h1
      rw [h1] at hd; cases hd
    have hkind := fun w => kind_other (hb (l.drop p)).toNat w (n1 32 rfl) (n1 9 rfl) (n1 10 rfl) (n1 13 rfl) (UInt8.toNat_lt _)
    have hsec : hb (l.drop p) = 45 → p + 1 < l.length → ∀ h, ((bs l)[p + 1]'h) ≠ 45 := by
      intro e hlt hh e2
      have : dd (l.drop p) = true := by
        refine (dd_iff _).2 ⟨l.drop (p + 2), ?_⟩
        rw [List.drop_eq_getElem_cons c, List.drop_eq_getElem_cons hlt]
        rw [List.drop_eq_getElem_cons c] at e
        rw [bs_get] at e2
        have e' : l[p] = 45 := e
        rw [e', e2]
      rw [this] at h2; cases h2
    have hs2 : (bs l).size ≤ 65536 := by omega
    have c2 : p < (bs l).size := by omega
    have c3 : (p : Int) < ((bs l).size : Int) := by omega
    have HG : Hid ((bs l)[p]'c2 = hb (l.drop p)) := hg
    have HSec : Hid (hb (l.drop p) = 45 → p + 1 < l.length → ∀ h, ((bs l)[p + 1]'h) ≠ 45) := hsec
    have hsz' : Hid ((bs l).size = l.length) := hsz
    clear h h1 h2 hg n1 hsec hsz
    generalize bs l = s at *
    have hgc : s[p]'c2 = hb (l.drop p) := HG.out
    generalize hb (l.drop p) = cc at *
    go_enter Tryd.func10, Tryd.ntmps10
    go_wp2_with fail
    go_loopg [1] 1 (fun k t1 wr => k = 1 ∧ t1 = .int .i64 (p : Int) ∧ wr = w)
    case atStart => exact ⟨rfl, rfl, rfl⟩
    case round =>
      obtain ⟨rfl, rfl, rfl⟩ := hrel
      go_wp2_with fail
      refine (hkind _).mono ?_
      rintro e w1 ⟨⟨k, rfl, hk⟩, rfl⟩
      have k3 : ((k : Int) == 3) = false := by rw [beq_eq_false_iff_ne]; omega
      by_cases c45 : cc = 45
      · have e45 : ((cc.toNat : Int) == 45) = true := by rw [c45]; rfl
        by_cases cl : p + 1 < l.length
        · have cl2 : p + 1 < s.size := by have := hsz'.out; omega
          have cl3 : (p : Int) + 1 < (s.size : Int) := by omega
          have hne := HSec.out c45 cl cl2
          have e46 : ((s[p + 1].toNat : Int) == 45) = false := by
            rw [beq_eq_false_iff_ne]; intro e; exact hne (u8_int.2 e)
          clear hne c45 HSec HG
          go_wp2
          try rw [Exit.noGoto_ret]
          go_ret
          exact ⟨rfl, rfl⟩
        · have cl3 : ¬ (p : Int) + 1 < (s.size : Int) := by have := hsz'.out; omega
          clear c45 HSec HG
          go_wp2
          go_ret
          exact ⟨rfl, rfl⟩
      · have e45 : ((cc.toNat : Int) == 45) = false := by rw [beq_eq_false_iff_ne]; intro e; exact c45 (u8_int.2 e)
        clear c45 HSec HG
        go_wp2
        go_ret
        exact ⟨rfl, rfl⟩
  · have c3 : ¬ (p : Int) < ((bs l).size : Int) := by omega
    clear h hsz
    generalize bs l = s at *
    go_enter Tryd.func10, Tryd.ntmps10
    go_wp2_with fail
    go_loopg [1] 1 (fun k t1 wr => k = 1 ∧ t1 = .int .i64 (p : Int) ∧ wr = w)
    case atStart => exact ⟨rfl, rfl, rfl⟩
    case round =>
      obtain ⟨rfl, rfl, rfl⟩ := hrel
      go_wp2
      go_ret
      exact ⟨rfl, rfl⟩

theorem lexL_count (L : List UInt8) : ∀ (f off : Nat) (acc ts : List Tk), lexL f off L acc = .inr ts → acc.length ≤ 16384 → ts.length ≤ 16385 := by
  intro f
  induction f generalizing L with
  | zero => intro off acc ts h; cases h
  | succ f ih =>
    intro off acc ts h ha
    have e : lexL (f + 1) off L acc = (if sk false L < L.length then
        match wordW (L.drop (sk false L)) with
        | .inl (o, e) => .inl (off + sk false L + o, e)
        | .inr d =>
          if acc.length = 16384 then .inl (off + sk false L, 2)
          else lexL f (off + sk false L + d.len) (L.drop (sk false L + d.len)) (acc ++ [⟨d.k, off + sk false L, d.s, d.n⟩])
      else .inr (acc ++ [⟨4, off + L.length, [], 0⟩])) := rfl
    rw [e] at h
    split at h
    · split at h
      · cases h
      · split at h
        · cases h
        · exact ih _ _ _ _ h (by rw [List.length_append, List.length_singleton]; omega)
    · injection h with h
      subst h
      rw [List.length_append, List.length_singleton]; omega
theorem words_count {L : List UInt8} {ts : List Tk} (h : wordsF L = .inr ts) : ts.length ≤ 16385 := by
  unfold wordsF at h
  split at h
  · cases h
  · exact lexL_count L _ 0 [] ts h (by simp)

set_option maxHeartbeats 2000000 in
theorem lexBetween_walk (l : List UInt8) (w : World) (hs : Sg w) :
    Calls Tryd.prog 4 #[.string (bs l)] w fun e w' => e = .returned (.bool true) ∧ Below w.heap.size w w' := by
  obtain ⟨R, hR⟩ : ∃ R, R = wordsF l := ⟨_, rfl⟩
  have hwords := words_any l w hs R hR
  have HL : Hid (∀ w', Below w.heap.size w w' → Calls Tryd.prog 8 #[] w' fun e w'' => e = .returned (.bool true) ∧ Below w.heap.size w w'') := by
    intro w' hb
    have hs' : Sg w' := ⟨Nat.lt_of_lt_of_le hs.1 hb.size, fun r hr => (hb.cell (p := ⟨0, r, none⟩) hs.1).trans (hs.2 r hr)⟩
    exact (lxlives_any w' hs').mono fun e w'' h => ⟨h.1, hb.trans (h.2.mono hb.size)⟩
  clear hs
  cases R with
  | inl px =>
    obtain ⟨p, x⟩ := px
    have hx := wordsF_err hR.symm
    have hx1 : ((x : Int) != 0) = true := bne_iff_ne.2 (by omega)
    clear hR hx
    generalize bs l = s at *
    go_enter Tryd.func4, Tryd.ntmps4
    go_wp2_with fail
    refine hwords.mono ?_
    rintro e w1 ⟨rfl, hb⟩
    have hlv := HL.out w1 hb
    clear hwords
    go_wp2_with fail
    refine hlv.mono ?_
    rintro e w2 ⟨rfl, hb2⟩
    have HB : Hid _ := hb2
    clear hb2 hb hlv
    go_wp2
    go_ret
    exact ⟨rfl, HB.out⟩
  | inr ts =>
    obtain ⟨hpw, hall, ⟨ts', hts⟩, hl⟩ := wordsF_good hR.symm
    have hpos : 0 < ts.length := by rw [hts]; simp
    have hlast : ts[ts.length - 1]? = some ⟨4, l.length, [], 0⟩ := by rw [hts]; simp
    have hsz := bs_size l
    have HA : Hid (∀ i t, ts[i]? = some t → Pk l t ∧ ∀ u, 0 < i → ts[i - 1]? = some u → u.pos < t.pos) := by
      intro i t hi
      refine ⟨hall t (List.mem_of_getElem? hi), fun u h0 hu => ?_⟩
      obtain ⟨a1, rfl⟩ := List.getElem?_eq_some_iff.1 hi
      obtain ⟨a2, rfl⟩ := List.getElem?_eq_some_iff.1 hu
      exact List.pairwise_iff_getElem.1 hpw (i - 1) i a2 a1 (by omega)
    have HSK : Hid (∀ (t : Tk) (w : World), Pk l t → Calls Tryd.prog 10 #[.string (bs l), .int .i64 (t.pos : Int)] w fun e w' => e = .returned (.int .i64 (t.pos : Int)) ∧ w' = w) := fun t w h => skip_stay t.pos l w hl h.1 h.2.1
    have HSL : Hid (∀ t : Tk, Pk l t → t.k ≤ 1 → t.pos + t.s.length ≤ l.length ∧ (bs l).extract t.pos (t.pos + t.s.length) = bs t.s) := by
      intro t h hk
      obtain ⟨k1, k2⟩ := h.2.2 hk
      have := h.1
      refine ⟨by omega, ?_⟩
      rw [bs_extract, show t.pos + t.s.length - t.pos = t.s.length by omega, k2]
    have hsl : (bs l).size ≤ 65536 := by omega
    have HLn : Hid (ts.length ≤ 65537) := by
      have := words_count hR.symm
      show ts.length ≤ 65537
      omega
    clear hpw hall hR hts
    generalize bs l = s at *
    go_enter Tryd.func4, Tryd.ntmps4
    go_wp2_with fail
    refine hwords.mono ?_
    rintro e w1 ⟨v, rfl, hto, hb⟩
    obtain ⟨g, cap, rfl, _, _⟩ := hto.shape hpos
    have HT : Hid (∀ i t, ts[i]? = some t → Tc w1 g i t) := fun i t hi => hto.tc hi
    have hlv := HL.out w1
    have HB1 : Hid (Below w.heap.size w w1) := hb
    clear hwords hto hb hlv
    go_wp2_with fail
    have hlen := HLn.out
    go_loopg [6] ts.length (fun k t6 wr => ∃ i q : Nat, t6 = .int .i64 (i : Int) ∧ i ≤ ts.length ∧ k = ts.length - i ∧ wr = w1.drewN q)
    case atStart => exact ⟨0, 0, rfl, by omega, rfl, rfl⟩
    case round =>
      obtain ⟨i, q, rfl, hi, hk, rfl⟩ := hrel
      by_cases c : i < ts.length
      · obtain ⟨t, ht⟩ : ∃ t, ts[i]? = some t := ⟨_, List.getElem?_eq_getElem c⟩
        obtain ⟨hpk, hprev⟩ := HA.out i t ht
        have htc := HT.out i t ht
        have c0 := htc.k
        have c1 := htc.p
        have c2 := htc.s
        have c3 := htc.n
        have ci : (i : Int) < (ts.length : Int) := by omega
        have hskip := fun w => HSK.out t w hpk
        have hpl := hpk.1
        have HK1 : Hid (t.k ≤ 1 → t.pos + t.s.length ≤ l.length ∧ s.extract t.pos (t.pos + t.s.length) = bs t.s) := HSL.out t hpk
        have hsS := bs_size t.s
        generalize hpp : t.pos = p at *
        generalize hkk : t.k = tk at *
        generalize hbb : bs t.s = S at *
        generalize hll : t.s.length = sl at *
        generalize t.n = tn at *
        have d0 : decide ((p : Int) < 0) = false := decide_eq_false (by omega)
        have d1 : decide ((s.size : Int) < (p : Int)) = false := decide_eq_false (by omega)
        have d2 : decide ((l.length : Int) < (p : Int)) = false := decide_eq_false (by omega)
        have d3 : decide (l.length < p) = false := decide_eq_false (by omega)
        clear HSK HSL hpk htc c3 hpp hkk hbb hll
        go_upto_region 7 with fail
        go_cut [83] (fun b wc => b = .bool false ∧ ∃ q, wc = w1.drewN q)
        case first =>
          cases i with
          | zero =>
            clear hprev HA HK1 c0 c2
            go_big_quiet ((go_at_call 10; exact (hskip _).mono fun _ _ h => ⟨h.1, _, h.2⟩))
            go_wp2_with fail
            go_meet
            case rel => exact ⟨rfl, q + nq, by simp⟩
          | succ j =>
            obtain ⟨u, hu⟩ : ∃ u, ts[j]? = some u := ⟨_, List.getElem?_eq_getElem (by omega)⟩
            have hup := hprev u (by omega) hu
            have huc := (HT.out j u hu).p
            generalize u.pos = up at *
            have e0 : decide (p ≤ up) = false := decide_eq_false (by omega)
            have e1 : decide ((p : Int) ≤ (up : Int)) = false := decide_eq_false (by omega)
            have cj : (j : Int) < (ts.length : Int) := by omega
            have e2 : decide ((0 : Int) < ((j + 1 : Nat) : Int)) = true := decide_eq_true (by omega)
            have e3 : decide ((0 : Int) < (j : Int) + 1) = true := decide_eq_true (by omega)
            have hj1 : ((j + 1 : Nat) : Int) = (j : Int) + 1 := by omega
            clear hprev HA HK1 c0 c2 ht hu hup
            rw [hj1] at ci ⊢
            go_big_quiet ((go_at_call 10; exact (hskip _).mono fun _ _ h => ⟨h.1, _, h.2⟩))
            go_wp2_with fail
            go_meet
            case rel => exact ⟨rfl, q + nq, by simp⟩
        case rest =>
          obtain ⟨rfl, q2, rfl⟩ := hcut
          go_upto_region 9 with fail
          go_cut [133] (fun b wc => b = .bool false ∧ ∃ q, wc = w1.drewN q)
          case first =>
            by_cases ck : tk ≤ 1
            · obtain ⟨a1, a2⟩ := HK1.out ck
              have f0 : decide ((tk : Int) ≤ 1) = true := decide_eq_true (by omega)
              have f1 : decide (tk ≤ 1) = true := decide_eq_true ck
              have f2 : decide (l.length < p + sl) = false := decide_eq_false (by omega)
              have f3 : decide ((l.length : Int) < (p : Int) + (sl : Int)) = false := decide_eq_false (by omega)
              have f4 : decide ((s.size : Int) < (p : Int) + (sl : Int)) = false := decide_eq_false (by omega)
              have f5 : ((p : Int) + (sl : Int)).toNat = p + sl := by omega
              have f6 : (p : Int) + (sl : Int) ≤ (s.size : Int) := by omega
              have f7 : (p : Int) + (sl : Int) ≤ (l.length : Int) := by omega
              clear hprev HA HK1 hskip ht
              go_big_quiet (fail)
              go_wp2_with fail
              go_meet
              case rel => exact ⟨by first | rfl | simp, q2 + nq, by simp⟩
            · have f0 : decide ((tk : Int) ≤ 1) = false := decide_eq_false (by omega)
              have f1 : decide (tk ≤ 1) = false := decide_eq_false ck
              clear hprev HA HK1 c1 c2 hskip ht
              go_big_quiet (fail)
              go_wp2_with fail
              go_meet
              case rel => exact ⟨by first | rfl | simp, q2 + nq, by simp⟩
          case rest =>
            obtain ⟨rfl, q3, rfl⟩ := hcut
            clear hprev HA HK1 c0 c1 c2 hskip ht
            go_wp2_with fail
            go_roundg (ts.length - (i + 1))
            case measure => omega
            case rel => exact ⟨i + 1, q3, by go_num, by omega, rfl, rfl⟩
      · have ei : i = ts.length := by omega
        subst ei
        obtain ⟨m, hm⟩ : ∃ m, ts.length = m + 1 := ⟨ts.length - 1, by omega⟩
        have hlc := (HT.out (ts.length - 1) _ hlast).k
        rw [hm, Nat.add_sub_cancel] at hlc
        have hlv := HL.out (w1.drewN q) (below_drewN HB1.out q)
        clear HA HSK HSL hlast HT
        generalize ts.length = n at *
        subst hm
        go_wp2_with fail
        refine hlv.mono ?_
        rintro e w2 ⟨rfl, hb2⟩
        have HB : Hid _ := hb2
        clear hb2 hlv
        go_wp2
        go_ret
        exact ⟨rfl, HB.out⟩

end Go.Proofs.YtfhoimfjfbbhaaaDoor
