/-
  HpPlace, HpRefKey, HpLaid, HpRmark
-/
import Derived.Test.YthmocdabakkfhaaGreatDoorZ24

/-
  Layer 9: the reference's place.
-/
namespace Go.Proofs.YthmocdabakkfhaaGreatDoor
set_option maxRecDepth 100000
open Go.RowKit Flo

/-- An object as a value. -/
def Rr.val (r : Rr) : Value := .agg #[.int .i64 r.om.k, r.kv, r.vv, .int .i64 r.om.M.K, .int .u64 r.om.M.N, .string r.om.M.S, .int .i64 r.om.M.O, .int .i64 r.om.a, .int .i64 r.om.b, r.sv]
/-- A place as a number. -/
def plN (p : Option Nat) : Int := match p with
  | some j => (j : Int)
  | none => -1

theorem place_skip {ks : List V4} {k : V4} {j : Nat} (hj : j < ks.length) (h : ∀ i (hi : i < j), isV (ks[i]'(by omega)) k = false) (he : isV ks[j] k = true) : placeM ks k = some j := by
  unfold placeM
  rw [List.findIdx?_eq_some_iff_getElem]
  exact ⟨hj, he, fun i hi => by rw [h i hi]; decide⟩
theorem place_all {ks : List V4} {k : V4} (h : ∀ i (hi : i < ks.length), isV ks[i] k = false) : placeM ks k = none := by
  unfold placeM
  rw [List.findIdx?_eq_none_iff]
  intro x hx
  obtain ⟨i, hi, rfl⟩ := List.mem_iff_getElem.1 hx
  exact h i hi

theorem isV_not {x k : V4} (h : isV x k = false) : ¬ x.K = k.K ∨ (x.K = k.K ∧ ¬ x.N = k.N) ∨ (x.K = k.K ∧ x.N = k.N ∧ ¬ x.S.toList = k.S.toList) ∨ (x.K = k.K ∧ x.N = k.N ∧ x.S = k.S ∧ ¬ x.O = k.O) := by
  have hq : ¬ (x.K = k.K ∧ x.N = k.N ∧ x.S = k.S ∧ x.O = k.O) := of_decide_eq_false h
  by_cases a : x.K = k.K
  · by_cases b : x.N = k.N
    · by_cases c : x.S = k.S
      · exact .inr (.inr (.inr ⟨a, b, c, fun d => hq ⟨a, b, c, d⟩⟩))
      · exact .inr (.inr (.inl ⟨a, b, fun d => c (text_inj0 d)⟩))
    · exact .inr (.inl ⟨a, b⟩)
  · exact .inl a

set_option maxHeartbeats 2000000 in
theorem place_any (r : Rr) (k : V4) (w : World) (h : Vr w r.kv r.om.ks) (hvv : ∃ a n c, r.vv = .slice a n c) (hsv : ∃ a n c, r.sv = .slice a n c) (hl : r.om.ks.length ≤ 1048576) :
    Calls Tryz.prog 64 #[r.val, .agg #[.int .i64 k.K, .int .u64 k.N, .string k.S, .int .i64 k.O]] w fun e w' => e = .returned (.int .i64 (plN (placeM r.om.ks k))) ∧ Below w.heap.size w w' := by
  obtain ⟨a, cap, hkv, hf⟩ := h.form
  have HP : Hid (∀ j (hj : j < r.om.ks.length), (∀ i (hi : i < j), isV (r.om.ks[i]'(by omega)) k = false) → isV r.om.ks[j] k = true → plN (placeM r.om.ks k) = (j : Int)) := fun j hj h1 h2 => by rw [place_skip hj h1 h2]; rfl
  have HA : Hid ((∀ i (hi : i < r.om.ks.length), isV r.om.ks[i] k = false) → plN (placeM r.om.ks k) = -1) := fun h1 => by rw [place_all h1]; rfl
  have HF : Hid (∀ j (hj : j < r.om.ks.length), ∃ g, a = some ⟨g, 0, none⟩ ∧ g < w.heap.size ∧ At4 w g (j * 4) r.om.ks[j]) := fun j hj => by
    obtain ⟨g, e, hg, hc⟩ := hf (by omega)
    exact ⟨g, e, hg, hc j _ (List.getElem?_eq_getElem hj)⟩
  generalize plN (placeM r.om.ks k) = res at *
  obtain ⟨⟨rk, ra, rb, ⟨mK, mN, mS, mO⟩, ks, vs, sl⟩, kv, vv, sv⟩ := r
  simp only at hkv HP HA HF hl hvv hsv
  subst hkv
  obtain ⟨va, vn, vc, rfl⟩ := hvv
  obtain ⟨sa, sn, sc, rfl⟩ := hsv
  obtain ⟨n, hn⟩ : ∃ n, n = ks.length := ⟨_, rfl⟩
  have HN : Hid (n = ks.length) := hn
  rw [← hn] at hl
  simp only [Rr.val]
  rw [← hn]
  clear h hf hn
  have HB0 : Hid (Below w.heap.size w ((w.alloc (.cells #[.int .i64 rk, .slice a n cap, .slice va vn vc, .int .i64 mK, .int .u64 mN, .string mS, .int .i64 mO, .int .i64 ra, .int .i64 rb, .slice sa sn sc] 39)).alloc (.cells #[.int .i64 k.K, .int .u64 k.N, .string k.S, .int .i64 k.O] 37))) := ((Below.refl _ _).alloc (Nat.le_refl _) _).alloc (by simp) _
  go_enter Tryz.func64, Tryz.ntmps64
  go_wp2_with fail
  go_loopg [5] n (fun kk t5 wr => ∃ j : Nat, t5 = .int .i64 (j : Int) ∧ j ≤ n ∧ wr.cell? ⟨w.heap.size, 1, none⟩ = some (.slice a n cap) ∧ wr.cell? ⟨w.heap.size + 1, 0, none⟩ = some (.int .i64 k.K) ∧ wr.cell? ⟨w.heap.size + 1, 1, none⟩ = some (.int .u64 k.N) ∧ wr.cell? ⟨w.heap.size + 1, 2, none⟩ = some (.string k.S) ∧ wr.cell? ⟨w.heap.size + 1, 3, none⟩ = some (.int .i64 k.O) ∧
    Hid (kk = n - j ∧ Below w.heap.size w wr ∧ ∀ i (hi : i < j) (hl : i < ks.length), isV ks[i] k = false))
  case atStart => exact ⟨0, rfl, Nat.zero_le _, by go_simp, by go_simp, by go_simp, by go_simp, by go_simp, ⟨rfl, HB0.out, fun i hi => by omega⟩⟩
  case round =>
    obtain ⟨j, rfl, hj, b1, k0, k1, k2, k3, HI⟩ := hrel
    by_cases c : j < n
    · have hjl : j < ks.length := by rw [← HN.out]; exact c
      obtain ⟨g, rfl, hg, hc⟩ := HF.out j hjl
      have ci : (j : Int) < (n : Int) := by omega
      obtain ⟨x, hx⟩ : ∃ x, x = ks[j] := ⟨_, rfl⟩
      rw [← hx] at hc
      have x0 := (HI.out.2.1.cell hg).trans hc.c0
      have x1 := (HI.out.2.1.cell hg).trans hc.c1
      have x2 := (HI.out.2.1.cell hg).trans hc.c2
      have x3 := (HI.out.2.1.cell hg).trans hc.c3
      have HX : Hid (x = ks[j]) := hx
      clear hx hc
      cases hv : isV x k with
      | true =>
        have hxk := isV_eq.1 hv
        have HR : Hid (res = (j : Int)) := HP.out j hjl (fun i hi => HI.out.2.2 i hi _) (by rw [← HX.out]; exact hv)
        subst hxk
        clear HP HA HF HX hv
        go_wp2_with fail
        go_region
        go_wp2
        go_ret
        exact ⟨by rw [HR.out]; rfl, HI.out.2.1.drew⟩
      | false =>
        have HV : Hid (isV x k = false) := hv
        have hq := isV_not hv
        have HNX : Hid (∀ i (hi : i < j + 1) (hl : i < ks.length), isV ks[i] k = false) := fun i hi hl => by
          by_cases d : i = j
          · subst d; rw [← HX.out]; exact HV.out
          · exact HI.out.2.2 i (by omega) hl
        clear HP HA HF HX hv HV
        obtain ⟨xK, xN, xS, xO⟩ := x
        obtain ⟨kK, kN, kS, kO⟩ := k
        simp only at hq x0 x1 x2 x3 k0 k1 k2 k3
        rcases hq with q | ⟨rfl, q⟩ | ⟨rfl, rfl, q⟩ | ⟨rfl, rfl, rfl, q⟩
        all_goals
          go_wp2_with fail
          go_region
          go_wp2_with fail
          go_roundg (n - (j + 1))
          case measure => have := HI.out.1; omega
          case rel => exact ⟨j + 1, by go_num, by omega, b1, k0, k1, k2, k3, ⟨rfl, HI.out.2.1.drew, HNX.out⟩⟩
    · have hjn : j = n := by omega
      subst hjn
      have HR : Hid (res = -1) := HA.out (fun i hi => HI.out.2.2 i (by rw [HN.out]; exact hi) hi)
      clear HP HA HF
      go_wp2
      go_ret
      exact ⟨by rw [HR.out]; rfl, HI.out.2.1⟩

end Go.Proofs.YthmocdabakkfhaaGreatDoor

/-
  Layer 9: the reference's Key, once more (layer 8 has it beside what is shown, which is not wanted here).
-/
namespace Go.Proofs.YthmocdabakkfhaaGreatDoor
set_option maxRecDepth 100000
open Go.RowKit Flo

set_option maxHeartbeats 4000000 in
theorem refKey_any (K N : Int) (S : ByteArray) (O : Int) (w : World) (hN : U64 N) :
    Calls Tryz.prog 62 #[.agg #[.int .i64 K, .int .u64 N, .string S, .int .i64 O]] w fun e w' => e = .returned (.tuple #[.agg #[.int .i64 (yK K N), .int .u64 (yN K N), .string (yS K N S), .int .i64 (yO K N O)], .bool (kok K N)]) ∧ Below w.heap.size w w' := by
  have HN : Hid (∀ w, Calls Tryz.prog 63 #[.agg #[.int .i64 K, .int .u64 N, .string S, .int .i64 O]] w fun e w' => e = .returned (.agg #[.int .i64 (nK K), .int .u64 (nN K N), .string (nS K S), .int .i64 (nO K O)]) ∧ Below w.heap.size w w') := fun w => refNormal_any K N S O w hN
  have HKi : Hid (∀ w, Calls Tryz.prog 76 #[.int .u64 (nN K N)] w fun e w' => e = .returned (.int .i64 (kindZ (nN K N))) ∧ w' = w) := fun w => refKind_any _ w (nN_u64 hN)
  have HY : Hid (kok K N = false → yK K N = 0 ∧ yN K N = 0 ∧ yS K N S = ⟨#[]⟩ ∧ yO K N O = 0) := key_zero S O
  have HY2 : Hid (kok K N = true → yK K N = nK K ∧ yN K N = kN K N ∧ yS K N S = nS K S ∧ yO K N O = nO K O) := key_some S O
  go_enter Tryz.func62, Tryz.ntmps62
  go_upto_region 1 with fail
  go_cut [3] (fun t wx => t = .bool false ∧ wx.cell? ⟨w.heap.size, 0, none⟩ = some (.int .i64 (nK K)) ∧ wx.cell? ⟨w.heap.size, 1, none⟩ = some (.int .u64 (nN K N)) ∧ wx.cell? ⟨w.heap.size, 2, none⟩ = some (.string (nS K S)) ∧ wx.cell? ⟨w.heap.size, 3, none⟩ = some (.int .i64 (nO K O)) ∧
    wx.cell? ⟨w.heap.size + 1, 0, none⟩ = some (.int .i64 0) ∧ wx.cell? ⟨w.heap.size + 1, 1, none⟩ = some (.int .u64 0) ∧ wx.cell? ⟨w.heap.size + 1, 2, none⟩ = some (.string ⟨#[]⟩) ∧ wx.cell? ⟨w.heap.size + 1, 3, none⟩ = some (.int .i64 0) ∧ (∀ i, wx.frozen? ⟨w.heap.size, i, none⟩ = false) ∧ (∀ i, wx.frozen? ⟨w.heap.size + 1, i, none⟩ = false) ∧ w.heap.size + 1 < wx.heap.size ∧ Hid (Below w.heap.size w wx))
  case first =>
    go_wp2_with fail
    refine (HN.out _).mono ?_
    rintro e wn ⟨rfl, hb⟩
    obtain ⟨hc, hf⟩ := bcell hb
    have hsz := hb.size
    simp at hsz
    have a0 : wn.cell? ⟨w.heap.size, 0, none⟩ = some (.int .i64 K) := by rw [hc _ _ (by simp; try omega)]; simp
    have a1 : wn.cell? ⟨w.heap.size, 1, none⟩ = some (.int .u64 N) := by rw [hc _ _ (by simp; try omega)]; simp
    have a2 : wn.cell? ⟨w.heap.size, 2, none⟩ = some (.string S) := by rw [hc _ _ (by simp; try omega)]; simp
    have a3 : wn.cell? ⟨w.heap.size, 3, none⟩ = some (.int .i64 O) := by rw [hc _ _ (by simp; try omega)]; simp
    have b0 : wn.cell? ⟨w.heap.size + 1, 0, none⟩ = some (.int .i64 0) := by rw [hc _ _ (by simp; try omega)]; simp
    have b1 : wn.cell? ⟨w.heap.size + 1, 1, none⟩ = some (.int .u64 0) := by rw [hc _ _ (by simp; try omega)]; simp
    have b2 : wn.cell? ⟨w.heap.size + 1, 2, none⟩ = some (.string ⟨#[]⟩) := by rw [hc _ _ (by simp; try omega)]; simp
    have b3 : wn.cell? ⟨w.heap.size + 1, 3, none⟩ = some (.int .i64 0) := by rw [hc _ _ (by simp; try omega)]; simp
    have f0 : ∀ i, wn.frozen? ⟨w.heap.size, i, none⟩ = false := fun i => by rw [hf _ _ (by simp; try omega)]; simp
    have f1 : ∀ i, wn.frozen? ⟨w.heap.size + 1, i, none⟩ = false := fun i => by rw [hf _ _ (by simp; try omega)]; simp
    have hB : Below w.heap.size w wn := (((Below.refl _ _).alloc (Nat.le_refl _) _).alloc (by simp) _).trans (hb.mono (by simp; omega))
    have q1 := stored4 wn _ w.heap.size (.int .i64 (nK K)) (.int .u64 (nN K N)) (.string (nS K S)) (.int .i64 (nO K O)) _ _ _ _ a0 a1 a2 a3 rfl
    have hB1 := set4 (i0 := 0) (i1 := 1) (i2 := 2) (i3 := 3) hB (Nat.le_refl _) (.int .i64 (nK K)) (.int .u64 (nN K N)) (.string (nS K S)) (.int .i64 (nO K O))
    go_wp2_with fail
    go_meet
    exact ⟨rfl, q1.1.1, q1.1.2.1, q1.1.2.2.1, q1.1.2.2.2, (q1.2 _ _ (by omega)).trans b0, (q1.2 _ _ (by omega)).trans b1, (q1.2 _ _ (by omega)).trans b2, (q1.2 _ _ (by omega)).trans b3, fun i => by simp [f0], fun i => by simp [f1], by simp; omega, hB1⟩
  case rest =>
    obtain ⟨rfl, a0, a1, a2, a3, b0, b1, b2, b3, f0, f1, hz, HB⟩ := hcut
    have hz0 : w.heap.size < wc.heap.size := by omega
    by_cases h0 : nK K = 0
    · have hk : kok K N = false := by unfold kok; rw [h0]; rfl
      go_wp2
      obtain ⟨y1, y2, y3, y4⟩ := HY.out hk
      exact bodyPost_ret (v := .tuple #[.agg #[.int .i64 0, .int .u64 0, .string ⟨#[]⟩, .int .i64 0], .bool false]) (by simp [results, Tryz.results62, go_sem, b0, b1, b2, b3]) rfl ⟨by rw [y1, y2, y3, y4, hk], set4 HB.out (by omega) _ _ _ _⟩
    · have hb0 : (nK K == 0) = false := by simpa using h0
      by_cases h3 : nK K = 3
      · have hK3 : K = 3 := (nK_3 K).1 h3
        have hkn := kind_nan (nN K N)
        cases hk : kok K N
        · have hnan : nanB (nN K N) = true := by
            have h5 := hk
            rw [hK3, kok_3] at h5
            rw [hK3]
            show nanB (canonZ N) = true
            rw [nan_canon]; simpa using h5
          rw [hnan] at hkn
          have HYY := HY.out hk
          have HK : Hid (kok K N = false) := hk
          clear hnan hk HY HY2 hK3
          go_wp2_with fail
          refine (HKi.out _).mono ?_
          rintro e w' ⟨rfl, rfl⟩
          go_wp2
          obtain ⟨y1, y2, y3, y4⟩ := HYY
          exact bodyPost_ret (v := .tuple #[.agg #[.int .i64 0, .int .u64 0, .string ⟨#[]⟩, .int .i64 0], .bool false]) (by simp [results, Tryz.results62, go_sem, b0, b1, b2, b3]) rfl ⟨by rw [y1, y2, y3, y4, HK.out], set4 HB.out (by omega) _ _ _ _⟩
        · have hnan : nanB N = false := by
            have h5 := hk
            rw [hK3, kok_3] at h5
            simpa using h5
          have hnn : nN K N = N := by rw [hK3]; show canonZ N = N; unfold canonZ; rw [hnan]; rfl
          rw [hnn, hnan] at hkn
          have HYY := HY2.out hk
          have HK : Hid (kok K N = true) := hk
          have HkN : Hid (kN K N = if mag N = 0 then 0 else N) := by show _ = _; unfold kN; rw [hnn]
          rw [hnn] at a1 HKi
          obtain ⟨u1, u2⟩ := hN
          by_cases c63 : N = 9223372036854775808
          · have HM : Hid (kN K N = 0) := by show _ = _; rw [HkN.out, if_pos (by rw [c63]; decide)]
            subst c63
            clear hnan hk HY HY2 hK3 hnn HkN u1 u2
            go_wp2_with fail
            refine (HKi.out _).mono ?_
            rintro e w' ⟨rfl, rfl⟩
            go_wp2
            obtain ⟨y1, y2, y3, y4⟩ := HYY
            exact bodyPost_ret (v := .tuple #[.agg #[.int .i64 3, .int .u64 0, .string (nS K S), .int .i64 (nO K O)], .bool true]) (by simp [results, Tryz.results62, go_sem, b0, b1, b2, b3]) rfl ⟨by rw [y1, h3, y2, y3, y4, HM.out, HK.out], set4 (HB.out.setCell (p := ⟨w.heap.size, 1, none⟩) (Nat.le_refl _) _) (by omega) _ _ _ _⟩
          · have HM : Hid (kN K N = N) := by
              show _ = _
              rw [HkN.out]
              split
              · next z => unfold mag at z; split at z <;> omega
              · rfl
            have cb : (N == 9223372036854775808) = false := by simpa using c63
            clear hnan hk HY HY2 hK3 hnn HkN
            go_wp2_with fail
            refine (HKi.out _).mono ?_
            rintro e w' ⟨rfl, rfl⟩
            go_wp2
            obtain ⟨y1, y2, y3, y4⟩ := HYY
            exact bodyPost_ret (v := .tuple #[.agg #[.int .i64 3, .int .u64 N, .string (nS K S), .int .i64 (nO K O)], .bool true]) (by simp [results, Tryz.results62, go_sem, b0, b1, b2, b3]) rfl ⟨by rw [y1, h3, y2, y3, y4, HM.out, HK.out], set4 HB.out (by omega) _ _ _ _⟩
      · have h3b : (nK K == 3) = false := by simpa using h3
        have hK3 : K ≠ 3 := fun e => h3 ((nK_3 K).2 e)
        have hk : kok K N = true := (kok_plain N hK3).2 h0
        have HYY := HY2.out hk
        have HK : Hid (kok K N = true) := hk
        have HM : Hid (kN K N = nN K N) := by
          have := kN_plain N hK3
          rw [this.1, this.2]; exact rfl
        clear hk HY HY2
        go_wp2
        obtain ⟨y1, y2, y3, y4⟩ := HYY
        exact bodyPost_ret (v := .tuple #[.agg #[.int .i64 (nK K), .int .u64 (nN K N), .string (nS K S), .int .i64 (nO K O)], .bool true]) (by simp [results, Tryz.results62, go_sem, b0, b1, b2, b3]) rfl ⟨by rw [y1, y2, y3, y4, HM.out, HK.out], set4 HB.out (by omega) _ _ _ _⟩

end Go.Proofs.YthmocdabakkfhaaGreatDoor

/-
  Layer 9: the reference's rows copied, and written to.
-/
namespace Go.Proofs.YthmocdabakkfhaaGreatDoor
set_option maxRecDepth 100000
open Go.RowKit Flo

theorem infoObj : (Tryz.prog.info? 39).map (fun i => (i.zero, i.size, i.bytes)) = some (some (.agg #[.int .i64 0, .slice none 0 0, .slice none 0 0, .int .i64 0, .int .u64 0, .string ⟨#[]⟩, .int .i64 0, .int .i64 0, .int .i64 0, .slice none 0 0]), 10, 136) := by kernel_rfl
theorem infoVal : (Tryz.prog.info? 37).map (fun i => (i.zero, i.size, i.bytes)) = some (some (.agg #[.int .i64 0, .int .u64 0, .string ⟨#[]⟩, .int .i64 0]), 4, 40) := by kernel_rfl

/-! ### a store leaves all but the heap -/
theorem os_setc (w : World) (a : Addr) (v : Value) : (w.setCell a v).os = w.os := rfl
theorem tape_setc (w : World) (a : Addr) (v : Value) : (w.setCell a v).tape = w.tape := rfl
theorem output_setc (w : World) (a : Addr) (v : Value) : (w.setCell a v).output = w.output := rfl
theorem os_drewc (w : World) : w.drew.os = w.os := rfl
theorem tape_drewc (w : World) : w.drew.tape = w.tape := rfl
theorem output_drewc (w : World) : w.drew.output = w.output := rfl

/-! ### cells of a row set -/
def setsL (xs : List Value) (o : Nat) : List (Nat × Value) → List Value
  | [] => xs
  | p :: l => setsL (xs.set (o + p.1) p.2) o l
def stores (w : World) (g o : Nat) : List (Nat × Value) → World
  | [] => w
  | p :: l => stores (w.setCell ⟨g, o + p.1, none⟩ p.2) g o l
theorem flat_set : ∀ (css : List (List Value)) (W i j : Nat) (cs : List Value) (u : Value), (∀ c ∈ css, c.length = W) → css[i]? = some cs → j < W → (css.set i (cs.set j u)).flatten = css.flatten.set (i * W + j) u
  | [], W, i, j, cs, u, _, h, _ => by simp at h
  | c :: css, W, 0, j, cs, u, hl, h, hj => by
    simp only [List.getElem?_cons_zero, Option.some.injEq] at h
    subst h
    have hc := hl c List.mem_cons_self
    rw [List.set_cons_zero, List.flatten_cons, List.flatten_cons, Nat.zero_mul, Nat.zero_add, List.set_append_left _ _ (by omega)]
  | c :: css, W, i + 1, j, cs, u, hl, h, hj => by
    rw [List.getElem?_cons_succ] at h
    have hc := hl c List.mem_cons_self
    have := flat_set css W i j cs u (fun x hx => hl x (List.mem_cons_of_mem _ hx)) h hj
    rw [List.set_cons_succ, List.flatten_cons, List.flatten_cons, this, List.set_append_right _ _ (by rw [hc, Nat.succ_mul]; omega), hc, show (i + 1) * W + j - W = i * W + j by rw [Nat.succ_mul]; omega]
theorem flat_sets (W i : Nat) : ∀ (us : List (Nat × Value)) (css : List (List Value)) (cs : List Value), (∀ c ∈ css, c.length = W) → css[i]? = some cs → (∀ p ∈ us, p.1 < W) → (css.set i (setsL cs 0 us)).flatten = setsL css.flatten (i * W) us
  | [], css, cs, hl, h, _ => by
    show (css.set i cs).flatten = css.flatten
    rw [set_same css i cs h]
  | p :: us, css, cs, hl, h, hu => by
    have hp := hu p List.mem_cons_self
    have hi : i < css.length := by
      rcases Nat.lt_or_ge i css.length with c | c
      · exact c
      · rw [List.getElem?_eq_none c] at h; cases h
    have h1 := flat_set css W i p.1 cs p.2 hl h hp
    have h2 := flat_sets W i us (css.set i (cs.set p.1 p.2)) (cs.set p.1 p.2) (fun c hc => by
      rcases List.mem_or_eq_of_mem_set hc with q | q
      · exact hl c q
      · rw [q, List.length_set]; exact hl cs (List.mem_of_getElem? h)) (by rw [List.getElem?_set_self hi]) (fun q hq => hu q (List.mem_cons_of_mem _ hq))
    rw [List.set_set, h1] at h2
    show (css.set i (setsL (cs.set (0 + p.1) p.2) 0 us)).flatten = setsL (css.flatten.set (i * W + p.1) p.2) (i * W) us
    rw [Nat.zero_add]
    exact h2
theorem owns_stores {base e size n cap g o : Nat} : ∀ (us : List (Nat × Value)) {w : World} {xs : List Value}, w.ownsRow base e size (.slice (some ⟨g, 0, none⟩) n cap) n xs → (stores w g o us).ownsRow base e size (.slice (some ⟨g, 0, none⟩) n cap) n (setsL xs o us)
  | [], _, _, h => h
  | p :: us, _, _, h => owns_stores us (h.stored (o + p.1) p.2).1
theorem wx_stores {g o : Nat} : ∀ (us : List (Nat × Value)) (w : World), Wx (fun k => k = g) w (stores w g o us)
  | [], w => Wx.refl _ w
  | p :: us, w => Wx.trans (X := fun k => k = g) (Wx.set (X := fun k => k = g) (k := g) w (o + p.1) p.2 rfl) (wx_stores us _) (fun _ hk => Or.inl hk)
theorem size_stores {g o : Nat} : ∀ (us : List (Nat × Value)) (w : World), (stores w g o us).heap.size = w.heap.size
  | [], _ => rfl
  | _ :: us, _ => (size_stores us _).trans (World.size_setCell _ _ _)
theorem owns_free {w : World} {base e size n cap g : Nat} {xs : List Value} (h : w.ownsRow base e size (.slice (some ⟨g, 0, none⟩) n cap) n xs) (o : Nat) : w.frozen? ⟨g, o, none⟩ = false := by
  rcases h.2 with ⟨h', _⟩ | ⟨g', cap', cur, h', hb, hg, _⟩
  · simp at h'
  · simp only [Value.slice.injEq, Option.some.injEq, Addr.mk.injEq, and_true, true_and] at h'
    obtain ⟨rfl, rfl⟩ := h'
    simp [World.frozen?, hg]
theorem rC_flat (rs : List Rr) : rC rs = (rs.map Rr.cells).flatten := by unfold rC; rw [List.flatMap_def]
theorem vC_flat (l : List V4) : vC l = (l.map V4.cells).flatten := by unfold vC; rw [List.flatMap_def]
/-- Cells of one object of a row. -/
theorem rC_sets (rs : List Rr) (i : Nat) (r r' : Rr) (us : List (Nat × Value)) (h : rs[i]? = some r) (hu : ∀ p ∈ us, p.1 < 10) (hr : r'.cells = setsL r.cells 0 us) : setsL (rC rs) (i * 10) us = rC (rs.set i r') := by
  rw [rC_flat, rC_flat, List.map_set, hr]
  refine (flat_sets 10 i us _ r.cells (fun c hc => ?_) (by rw [List.getElem?_map, h]; rfl) hu).symm
  obtain ⟨x, _, rfl⟩ := List.mem_map.1 hc
  rfl
theorem vC_sets (l : List V4) (i : Nat) (v v' : V4) (us : List (Nat × Value)) (h : l[i]? = some v) (hu : ∀ p ∈ us, p.1 < 4) (hr : v'.cells = setsL v.cells 0 us) : setsL (vC l) (i * 4) us = vC (l.set i v') := by
  rw [vC_flat, vC_flat, List.map_set, hr]
  refine (flat_sets 4 i us _ v.cells (fun c hc => ?_) (by rw [List.getElem?_map, h]; rfl) hu).symm
  obtain ⟨x, _, rfl⟩ := List.mem_map.1 hc
  rfl

/-! ### the reference's heap behind a call -/
def RH (w : World) (db lim : Nat) (L : List Om) (Q : Nat → Prop) : Prop := ∃ R rs, Rv w db lim R rs Q ∧ rs.map Rr.om = L
def RP (w : World) (db lim : Nat) (L : List Om) (Q : Nat → Prop) (w' : World) : Prop := ∃ Q', RH w' db lim L Q' ∧ Wx (fun k => k = db) w w' ∧ ∀ k, Q' k → Q k ∨ w.heap.size ≤ k
theorem Rv.rp {w w' : World} {db lim : Nat} {R : Value} {rs : List Rr} {Q : Nat → Prop} (h : Rv w db lim R rs Q) (k : Below w.heap.size w w') : RP w db lim (rs.map Rr.om) Q w' :=
  ⟨Q, ⟨R, rs, h.below k, rfl⟩, Wx.of_below _ k, fun _ c => Or.inl c⟩
theorem Rv.lay {w w' : World} {db lim : Nat} {R R' : Value} {rs rs' : List Rr} {Q : Nat → Prop} (h : Rv w db lim R rs Q) (k : Wx (fun j => j = db) w w') (c0 : w'.cell? ⟨db, 0, none⟩ = some R') (c1 : w'.cell? ⟨db, 1, none⟩ = some (.int .i64 lim)) (hf : ∀ o, w'.frozen? ⟨db, o, none⟩ = false)
    (row : w'.ownsRow w.heap.size 39 10 R' rs'.length (rC rs')) (ob : ∀ (i : Nat) r, rs'[i]? = some r → (∃ j : Nat, rs[j]? = some r) ∨ Rrv w' (fun g => (Q g ∧ g ≠ db) ∨ (w.heap.size ≤ g ∧ g < w'.heap.size)) r) (hu : usedR rs' ≤ lim) : RP w db lim (rs'.map Rr.om) Q w' := by
  have hlt := h.lt db h.qd
  refine ⟨Zn Q w.heap.size w'.heap.size, ⟨R', rs', ⟨c0, c1, hf, ⟨row.1, ?_⟩, fun i r hr => ?_, fun j hj => ?_, Or.inl h.qd, fun g hg => ?_, h.hl, hu⟩, rfl⟩, k, fun j hj => ?_⟩
  · rcases row.2 with q | ⟨g, cap, cur, q1, _, q2⟩
    · exact Or.inl q
    · exact Or.inr ⟨g, cap, cur, q1, Nat.zero_le _, q2⟩
  · rcases ob i r hr with ⟨j, hj⟩ | q
    · exact ((h.ob j r hj).wx k (fun g hg => hg.2)).more (fun g hg => ⟨Or.inl hg.1, hg.2⟩)
    · refine q.more (fun g hg => ?_)
      rcases hg with c | c
      · exact ⟨Or.inl c.1, c.2⟩
      · exact ⟨Or.inr c, by omega⟩
  · rcases hj with c | c
    · exact Nat.lt_of_lt_of_le (h.lt j c) k.size
    · exact c.2
  · have := World.ownsRow.lt row g hg
    exact ⟨Or.inr this, by omega⟩
  · rcases hj with c | c
    · exact Or.inl c
    · exact Or.inr c.1

/-- What is known behind the copy of the row of objects, made in a world of its own memory. -/
structure Cpd (w w2 : World) (rs : List Rr) (a : Option Addr) (c : Nat) : Prop where
  low : Below w.heap.size w w2
  row : w2.ownsRow w.heap.size 39 10 (.slice a rs.length c) rs.length (rC rs)
theorem cpd_of {w w1 w2 : World} {rs : List Rr} {a : Option Addr} {c : Nat} (k : Below w.heap.size w w1)
    (hown : w2.ownsRow w.heap.size 39 10 (.slice a rs.length c) rs.length (rC rs)) (hg : (w1.alloc (.cells #[] 39)).grownBy w2 (some w1.heap.size)) : Cpd w w2 rs a c := by
  have hs := k.size
  refine ⟨⟨?_, ?_, ?_, ?_, fun j hj => ?_⟩, hown⟩
  · rw [hg.os]; exact k.os
  · rw [hg.tape]; exact k.tape
  · rw [hg.output]; exact k.output
  · have := hg.size; simp at this; omega
  · exact (hg.block j (by simp; omega) (fun e => by injection e with e; omega)).trans ((k.alloc hs (.cells #[] 39)).block j hj)
/-- Behind the copy, the row laid into the heap, and cells of one object written. -/
theorem Cpd.lay {w w2 w4 : World} {db lim i g c : Nat} {R : Value} {rs : List Rr} {Q : Nat → Prop} {r r' : Rr} {us : List (Nat × Value)} (h : Rv w db lim R rs Q) (k : Cpd w w2 rs (some ⟨g, 0, none⟩) c) (hi : rs[i]? = some r) (hu : ∀ p ∈ us, p.1 < 10) (hr : r'.cells = setsL r.cells 0 us)
    (hw : w4.heap = (stores (w2.setCell ⟨db, 0, none⟩ (.slice (some ⟨g, 0, none⟩) rs.length c)) g (i * 10) us).heap) (ho : w4.os = w2.os) (ht : w4.tape = w2.tape) (hp : w4.output = w2.output)
    (hv : Rrv w2 (fun g => (Q g ∧ g ≠ db) ∨ (w.heap.size ≤ g ∧ g < w2.heap.size)) r') (hg' : ∀ x, r'.kv.ownBlock = some x ∨ r'.vv.ownBlock = some x ∨ r'.sv.ownBlock = some x → x ≠ g) (hwt : usedR (rs.set i r') ≤ lim) : RP w db lim ((rs.map Rr.om).set i r'.om) Q w4 := by
  have hdb := h.lt db h.qd
  have hgl := World.ownsRow.lt k.row g rfl
  have hgd : g ≠ db := by omega
  obtain ⟨W3, hW3⟩ : ∃ W3, W3 = w2.setCell ⟨db, 0, none⟩ (.slice (some ⟨g, 0, none⟩) rs.length c) := ⟨_, rfl⟩
  obtain ⟨W4, hW4⟩ : ∃ W4, W4 = stores W3 g (i * 10) us := ⟨_, rfl⟩
  rw [← hW3, ← hW4] at hw
  have x3 : Wx (fun j => j = db) w2 W3 := by rw [hW3]; exact Wx.set w2 0 _ rfl
  have x4 : Wx (fun j => j = g) W3 W4 := by rw [hW4]; exact wx_stores us W3
  have x5 : Wx (fun _ => False) W4 w4 := ⟨by rw [ho, x4.os, x3.os], by rw [ht, x4.tape, x3.tape], by rw [hp, x4.output, x3.output], by rw [hw]; exact Nat.le_refl _, fun j _ _ => by rw [hw]⟩
  have hs3 : W3.heap.size = w2.heap.size := by rw [hW3]; exact World.size_setCell _ _ _
  have hs4 : W4.heap.size = W3.heap.size := by rw [hW4]; exact size_stores us W3
  have hs5 : w4.heap.size = w2.heap.size := by rw [hw, hs4, hs3]
  have hall : Wx (fun j => j = db) w w4 := ((((Wx.of_below _ k.low).trans x3 (fun j hj => Or.inl hj)).trans x4 (fun j hj => Or.inr (by omega))).trans x5 (fun j hj => hj.elim))
  have row2 : w2.ownsRow w.heap.size 39 10 (.slice (some ⟨g, 0, none⟩) rs.length c) rs.length (rC rs) := k.row
  have hoe : ∀ j, (Value.slice (some ⟨g, 0, none⟩) rs.length c).ownBlock = some j → g = j := fun j hj => by simpa [Value.ownBlock] using hj
  have row3 : W3.ownsRow w.heap.size 39 10 (.slice (some ⟨g, 0, none⟩) rs.length c) rs.length (rC rs) := rowStay row2 (fun j hj => x3.block j (World.ownsRow.lt row2 j hj).2 (fun q => hgd ((hoe j hj).trans q)))
  have row4 : W4.ownsRow w.heap.size 39 10 (.slice (some ⟨g, 0, none⟩) rs.length c) rs.length (rC (rs.set i r')) := by
    have := owns_stores (o := i * 10) us row3
    rw [rC_sets rs i r r' us hi hu hr, ← hW4] at this
    exact this
  have row5 : w4.ownsRow w.heap.size 39 10 (.slice (some ⟨g, 0, none⟩) (rs.set i r').length c) (rs.set i r').length (rC (rs.set i r')) := by
    rw [List.length_set]
    exact rowStay row4 (fun j hj => by rw [hw])
  have c0 : W3.cell? ⟨db, 0, none⟩ = some (.slice (some ⟨g, 0, none⟩) rs.length c) := by
    rw [hW3]
    exact World.cell?_setCell_same _ _ _ ((k.low.cell hdb).trans h.c0)
  have hc : ∀ o, w4.cell? ⟨db, o, none⟩ = W3.cell? ⟨db, o, none⟩ := fun o => by
    have e1 : w4.heap[db]? = W3.heap[db]? := by rw [hw]; exact x4.block db (by omega) (by omega)
    exact World.cell?_of_block (w := W3) (a := ⟨db, o, none⟩) e1
  have hmap : (rs.map Rr.om).set i r'.om = (rs.set i r').map Rr.om := List.map_set.symm
  rw [hmap]
  refine h.lay hall ?_ ?_ (fun o => ?_) row5 (fun j x hx => ?_) hwt
  · rw [hc, c0, List.length_set]
  · rw [hc, hW3, World.cell?_setCell_other _ _ _ _ (by simp)]
    exact (k.low.cell hdb).trans h.c1
  · have e1 : w4.heap[db]? = W3.heap[db]? := by rw [hw]; exact x4.block db (by omega) (by omega)
    rw [World.frozen?_of_block (w := W3) (a := ⟨db, o, none⟩) e1, hW3, World.frozen?_setCell]
    exact (k.low.frozen hdb).trans (h.free o)
  · rw [List.getElem?_set] at hx
    by_cases e : i = j
    · rw [if_pos e] at hx
      split at hx
      · injection hx with hx
        subst hx
        right
        have hx2 : Wx (fun j => j = db ∨ j = g) w2 w4 := ((x3.more (fun j hj => Or.inl (Or.inl hj))).trans x4 (fun j hj => Or.inl (Or.inr hj))).trans x5 (fun j hj => hj.elim)
        refine Rrv.more (Q := fun x => ((Q x ∧ x ≠ db) ∨ (w.heap.size ≤ x ∧ x < w2.heap.size)) ∧ x ≠ g) ?_ (fun x hx => by
          rcases hx.1 with q | q
          · exact Or.inl q
          · exact Or.inr ⟨q.1, by omega⟩)
        refine Rrv.wx (X := fun j => j = db ∨ j = g) ⟨hv.k, hv.v, hv.s, fun x hx => ⟨hv.own x hx, hg' x hx⟩, hv.len⟩ hx2 (fun x hx hc => ?_)
        rcases hc with q | q
        · rcases hx.1 with t | t
          · exact t.2 q
          · omega
        · exact hx.2 q
      · cases hx
    · rw [if_neg e] at hx
      exact Or.inl ⟨j, hx⟩

theorem rv_src {w w' : World} {db lim : Nat} {R : Value} {rs : List Rr} {Q : Nat → Prop} (h : Rv w db lim R rs Q) (k : Below w.heap.size w w') : Src w' 10 R rs.length (rC rs) :=
  Src.of_owns (h.below k).row (rC_one rs (fun r hr => by
    obtain ⟨i, hi⟩ := List.mem_iff_getElem?.1 hr
    have := h.ob i r hi
    exact ⟨this.k.one, this.v.one, this.s.one⟩))

end Go.Proofs.YthmocdabakkfhaaGreatDoor

/-
  Layer 9: the reference's Mark and SetMeta.
-/
namespace Go.Proofs.YthmocdabakkfhaaGreatDoor
set_option maxRecDepth 100000
open Go.RowKit Flo

theorem usedR_set : ∀ (rs : List Rr) (i : Nat) (r r' : Rr), rs[i]? = some r → usedR (rs.set i r') + r.om.wt = usedR rs + r'.om.wt
  | [], i, r, r', h => by simp at h
  | p :: l, 0, r, r', h => by
    simp only [List.getElem?_cons_zero, Option.some.injEq] at h
    subst h
    unfold usedR
    simp only [List.set_cons_zero, List.map_cons, List.sum_cons]; omega
  | p :: l, i + 1, r, r', h => by
    rw [List.getElem?_cons_succ] at h
    have := usedR_set l i r r' h
    unfold usedR at *
    simp only [List.set_cons_succ, List.map_cons, List.sum_cons]; omega
def markM (L : List Om) (o a : Int) : Int × List Om := match atM L o with
  | none => (5, L)
  | some x => if x.k = 5 then (5, L) else (0, L.set (o - 1).toNat { x with a := a })
theorem atM_rs (rs : List Rr) (o : Int) : atM (rs.map Rr.om) o = (rAt rs o).map Rr.om := by
  unfold atM rAt
  rw [List.length_map, List.getElem?_map]
  split <;> rfl
theorem tabM_rs (rs : List Rr) (o : Int) : tabM (rs.map Rr.om) o = (rTab rs o).map Rr.om := by
  unfold tabM rTab
  rw [atM_rs]
  cases rAt rs o with
  | none => rfl
  | some r =>
    simp only [Option.map_some, Option.filter_some]
    by_cases c : r.om.k = 5 <;> simp [c]
theorem cpd_g {w w2 : World} {rs : List Rr} {a : Option Addr} {c : Nat} (k : Cpd w w2 rs a c) (hn : 0 < rs.length) : ∃ g, a = some ⟨g, 0, none⟩ ∧ w.heap.size ≤ g ∧ g < w2.heap.size ∧ (∀ o, w2.frozen? ⟨g, o, none⟩ = false) ∧ ∀ i r, rs[i]? = some r → ∀ j, j < 10 → w2.cell? ⟨g, i * 10 + j, none⟩ = r.cells[j]? := by
  have hrow := k.row
  obtain ⟨g, cap, e, h1, h2⟩ := hrow.form hn
  simp only [Value.slice.injEq] at e
  obtain ⟨rfl, _, _⟩ := e
  refine ⟨g, rfl, h1, h2, fun o => owns_free hrow o, fun i r hr j hj => ?_⟩
  have hi : i < rs.length := by
    rcases Nat.lt_or_ge i rs.length with c | c
    · exact c
    · rw [List.getElem?_eq_none c] at hr; cases hr
  rw [hrow.cellAt (i * 10 + j) (by omega), rC_at rs i r hr j hj]
/-- The object itself, behind the copy. -/
theorem Rv.old {w w2 : World} {db lim i : Nat} {R : Value} {rs : List Rr} {Q : Nat → Prop} {r : Rr} (h : Rv w db lim R rs Q) (k : Below w.heap.size w w2) (hi : rs[i]? = some r) : Rrv w2 (fun g => (Q g ∧ g ≠ db) ∨ (w.heap.size ≤ g ∧ g < w2.heap.size)) r ∧ ∀ x, r.kv.ownBlock = some x ∨ r.vv.ownBlock = some x ∨ r.sv.ownBlock = some x → x < w.heap.size :=
  ⟨((h.below k).ob i r hi).more (fun _ hg => Or.inl hg), fun x hx => h.lt x ((h.ob i r hi).own x hx).1⟩

set_option maxHeartbeats 1000000 in
theorem rmark_any {w : World} {db lim : Nat} {R : Value} {rs : List Rr} {Q : Nat → Prop} (h : Rv w db lim R rs Q) (o a : Int) :
    Calls Tryz.prog 36 #[.pointer (some ⟨db, 0, none⟩), .int .i64 o, .int .i64 a] w fun e w' => e = .returned (.int .i64 (markM (rs.map Rr.om) o a).1) ∧ RP w db lim (markM (rs.map Rr.om) o a).2 Q w' := by
  have HI := ris_any h o
  have HH := rhas_any h o
  by_cases c : 1 ≤ o ∧ o ≤ rs.length
  · rw [show decide (1 ≤ o ∧ o ≤ (rs.length : Int)) = true from decide_eq_true c] at HI
    obtain ⟨r, hr⟩ := rAt_of c
    obtain ⟨i, ho, hoi, hil, hri⟩ := rAt_some hr
    by_cases d : r.om.k = 5
    · have hm : markM (rs.map Rr.om) o a = (5, rs.map Rr.om) := by unfold markM; rw [atM_rs, hr]; simp only [Option.map_some]; rw [if_pos d]
      rw [hm]
      rw [show (rTab rs o).isSome = true by unfold rTab; rw [hr]; simp [d]] at HH
      have HQ : Hid (RP w db lim (rs.map Rr.om) Q w) := h.rp (Below.refl _ _)
      clear h hr hri hm ho hoi c d hil
      go_enter Tryz.func36, Tryz.ntmps36
      go_wp2_with fail
      refine HI.mono ?_
      rintro e w' ⟨rfl, rfl⟩
      clear HI
      go_wp2_with fail
      refine HH.mono ?_
      rintro e w' ⟨rfl, rfl⟩
      clear HH
      go_wp2
      go_ret
      exact ⟨rfl, HQ.out⟩
    · have hm : markM (rs.map Rr.om) o a = (0, (rs.map Rr.om).set i { r.om with a := a }) := by unfold markM; rw [atM_rs, hr]; simp only [Option.map_some]; rw [if_neg d, hoi]
      rw [hm]
      rw [show (rTab rs o).isSome = false by unfold rTab; rw [hr]; simp [d]] at HH
      obtain ⟨a0, cap, hR, hf⟩ := h.form
      have hc0 := h.c0
      rw [hR] at hc0
      have hdb := h.lt db h.qd
      have hfd := h.free 0
      have hlen : rs.length ≤ 1048576 := by have := usedR_len rs; have := h.hu; have := h.hl; omega
      obtain ⟨i0, hi0⟩ : ∃ i, Tryz.prog.info? 39 = some i := by
        cases hq : Tryz.prog.info? 39 with
        | none => have := infoObj; rw [hq] at this; cases this
        | some q => exact ⟨q, rfl⟩
      have hinfo := infoObj
      rw [hi0] at hinfo
      simp only [Option.map_some, Option.some.injEq, Prod.mk.injEq] at hinfo
      obtain ⟨hz0, hz1, hz2⟩ := hinfo
      have HOWN : Hid ((w.alloc (.cells #[] 39)).ownsRow w.heap.size 39 10 (.slice (some ⟨w.heap.size, 0, none⟩) 0 0) 0 []) := World.ownsRow_lit (base := w.heap.size) (e := 39) (size := 10) w #[] 0 (Nat.le_refl _) (by decide) rfl
      have HSRC : Hid (Src (w.alloc (.cells #[] 39)) 10 (.slice a0 rs.length cap) rs.length (rC rs)) := by
        have := rv_src h ((Below.refl _ _).alloc (Nat.le_refl _) (.cells #[] 39))
        rw [hR] at this
        exact this
      have HQ : Hid (∀ w2 a2 c2, Cpd w w2 rs a2 c2 → ∃ g, a2 = some ⟨g, 0, none⟩ ∧ g ≠ db ∧ w2.cell? ⟨db, 0, none⟩ = some (.slice a0 rs.length cap) ∧ w2.frozen? ⟨db, 0, none⟩ = false ∧ w2.frozen? ⟨g, i * 10 + 7, none⟩ = false ∧ w2.cell? ⟨g, i * 10 + 7, none⟩ = some (.int .i64 r.om.a) ∧
          RP w db lim ((rs.map Rr.om).set i { r.om with a := a }) Q ((w2.setCell ⟨db, 0, none⟩ (.slice (some ⟨g, 0, none⟩) rs.length c2)).setCell ⟨g, i * 10 + 7, none⟩ (.int .i64 a))) := fun w2 a2 c2 k => by
        obtain ⟨g, e, hg1, hg2, hgf, hgc⟩ := cpd_g k (by omega)
        subst e
        obtain ⟨ho1, ho2⟩ := h.old k.low hri
        refine ⟨g, rfl, by omega, (k.low.cell hdb).trans hc0, (k.low.frozen hdb).trans hfd, hgf _, hgc i r hri 7 (by omega), ?_⟩
        refine Cpd.lay (r' := { r with om := { r.om with a := a } }) (us := [(7, .int .i64 a)]) h k hri (by simp) rfl rfl rfl rfl rfl ?_ (fun x hx => by have := ho2 x hx; omega) ?_
        · exact ⟨ho1.k, ho1.v, ho1.s, ho1.own, ho1.len⟩
        · have := usedR_set rs i r { r with om := { r.om with a := a } } hri
          have hw : ({ r with om := { r.om with a := a } } : Rr).om.wt = r.om.wt := rfl
          have := h.hu
          omega
      clear h hR hf hr hm
      have hil2 : (i : Int) < (rs.length : Int) := by omega
      obtain ⟨n, hn⟩ : ∃ n, n = rs.length := ⟨_, rfl⟩
      rw [← hn] at hlen hil2 HSRC hc0 HQ
      have HCP : Hid (∀ w2 a2 c2, w2.ownsRow w.heap.size 39 10 (.slice a2 n c2) n (rC rs) → (w.alloc (.cells #[] 39)).grownBy w2 (some w.heap.size) → Cpd w w2 rs a2 c2) := fun w2 a2 c2 q1 q2 => cpd_of (Below.refl _ _) (by rw [← hn]; exact q1) q2
      clear hn c
      subst ho
      have e1 : (i : Int) + 1 - 1 = (i : Int) := by omega
      go_enter Tryz.func36, Tryz.ntmps36
      go_wp2_with fail
      refine HI.mono ?_
      rintro e w' ⟨rfl, rfl⟩
      clear HI
      go_wp2_with fail
      refine HH.mono ?_
      rintro e w' ⟨rfl, rfl⟩
      clear HH
      go_wp2_with (at_builtin; refine wpList_append_src _ rfl _ _ 29 rfl w'.heap.size 39 i0 _ 10 136 Tryz.underlying29 hi0 hz0 hz1 hz2 rfl (by decide) _ 0 [] rfl HOWN.out _ n (rC rs) rfl HSRC.out (by unfold maxLen; omega) (by omega) (by simp) ?_)
      intro a2 c2 w2 q1 q2 q3
      obtain ⟨g, rfl, hgd, m0, m1, m2, m3, hrp⟩ := HQ.out w2 a2 c2 (HCP.out w2 a2 c2 q1 q2)
      have HRP : Hid _ := hrp
      clear hrp q1 q2 q3 HQ HCP HOWN HSRC
      go_wp2
      go_ret
      exact ⟨rfl, HRP.out⟩
  · have hm : markM (rs.map Rr.om) o a = (5, rs.map Rr.om) := by unfold markM; rw [atM_rs, rAt_none c]; rfl
    rw [hm]
    rw [show decide (1 ≤ o ∧ o ≤ (rs.length : Int)) = false from decide_eq_false c] at HI
    have HQ : Hid (RP w db lim (rs.map Rr.om) Q w) := h.rp (Below.refl _ _)
    clear h hm c HH
    go_enter Tryz.func36, Tryz.ntmps36
    go_wp2_with fail
    refine HI.mono ?_
    rintro e w' ⟨rfl, rfl⟩
    clear HI
    go_wp2
    go_ret
    exact ⟨rfl, HQ.out⟩

end Go.Proofs.YthmocdabakkfhaaGreatDoor
