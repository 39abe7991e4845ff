/-
  HpDoes2, HeapBounds, HpClose3, HeapBoundsOwn
-/
import Derived.ChangeSlices
import Derived.Test.YtjlcdpablnnplaaDoorZ35

/-
  Layer 9: the law's does, whole.
-/
namespace Go.Proofs.YtjlcdpablnnplaaDoor
set_option maxRecDepth 100000
open Go.RowKit Flo

set_option maxHeartbeats 2000000 in
theorem does_make {w : World} {hb db lim B : Nat} {L : List Om} {Z Q : Nat → Prop} (h : Dv w hb db lim B L Z Q) (c : Ac) (hk : c.kind = 3) :
    Calls Tryd.prog 7 #[.pointer (some ⟨hb, 0, none⟩), .pointer (some ⟨db, 0, none⟩), c.val] w fun e w' => e = .returned (.bool true) ∧ DP w hb db lim B (doesM lim L c) w' := by
  have hm : doesM lim L c = (makeM lim L c.o c.a c.b c.n).2 := by unfold doesM; rw [if_neg (by rw [hk]; decide), if_neg (by rw [hk]; decide), if_neg (by rw [hk]; decide), if_pos hk]
  rw [hm]
  obtain ⟨kind, o, a, b, n, ⟨kK, kN, kS, kO⟩, ⟨vK, vN, vS, vO⟩⟩ := c
  simp only at hk ⊢
  subst hk
  obtain ⟨w0, hw0⟩ : ∃ w0, w0 = w.alloc (.cells #[.int .i64 3, .int .i64 o, .int .i64 a, .int .i64 b, .int .i64 n, .int .i64 kK, .int .u64 kN, .string kS, .int .i64 kO, .int .i64 vK, .int .u64 vN, .string vS, .int .i64 vO] 37) := ⟨_, rfl⟩
  have hb0 : Below w.heap.size w w0 := by rw [hw0]; exact (Below.refl _ _).alloc (Nat.le_refl _) _
  have HD := hide_p (h.below hb0)
  have HB0 := hide_p (hb0.mono h.le)
  have HL := hide_p (lmake_any HD.out.l o a b n)
  have HR : Hid (∀ w1, RH w1 db lim L Q → Calls Tryd.prog 23 #[.pointer (some ⟨db, 0, none⟩), .int .i64 o, .int .i64 a, .int .i64 b, .int .i64 n] w1 fun e w' => e = .returned (.tuple #[.int .i64 (makeM lim L o a b n).1.1, .int .i64 (makeM lim L o a b n).1.2]) ∧ RP w1 db lim (makeM lim L o a b n).2 Q w') := fun w1 h1 => by
    obtain ⟨R, rs, h2, h3⟩ := h1
    rw [← h3]
    exact rmake_any h2 o a b n
  have HM : Hid (∀ w1, LP w0 hb lim (makeM lim L o a b n).2 Z w1 → (∃ Z', Mid w0 w1 hb db lim B L (makeM lim L o a b n).2 Z Q Z') ∧ Wx Z w0 w1) := fun w1 hp => ⟨HD.out.mid hp, by obtain ⟨_, _, hx, _⟩ := hp; exact hx⟩
  have hnz : ¬ Z w.heap.size := fun c => by have := h.l.lt _ c; omega
  have b1 : w0.cell? ⟨w.heap.size, 1, none⟩ = some (.int .i64 o) := by rw [hw0]; go_simp
  have b2 : w0.cell? ⟨w.heap.size, 2, none⟩ = some (.int .i64 a) := by rw [hw0]; go_simp
  have b3 : w0.cell? ⟨w.heap.size, 3, none⟩ = some (.int .i64 b) := by rw [hw0]; go_simp
  have b4 : w0.cell? ⟨w.heap.size, 4, none⟩ = some (.int .i64 n) := by rw [hw0]; go_simp
  clear h hb0 hm
  generalize (makeM lim L o a b n).2 = L' at *
  generalize (makeM lim L o a b n).1.1 = r1 at *
  generalize (makeM lim L o a b n).1.2 = r2 at *
  simp only [Ac.val]
  rw [hw0] at HL
  go_enter Tryd.func7, Tryd.ntmps7
  go_wp2_with fail
  refine HL.out.mono ?_
  rintro e w1 ⟨rfl, hlp⟩
  rw [← hw0] at hlp
  obtain ⟨⟨Z', hmid⟩, hx⟩ := HM.out w1 hlp
  have d1 := hx.cell hnz b1
  have d2 := hx.cell hnz b2
  have d3 := hx.cell hnz b3
  have d4 := hx.cell hnz b4
  have HMID := hide_p hmid
  have HR1 := hide_p (HR.out w1 hmid.r)
  clear hlp hmid HL HR HM hw0 hx b1 b2 b3 b4
  go_wp2_with fail
  refine HR1.out.mono ?_
  rintro e w2 ⟨rfl, hrp⟩
  have HQ : Hid (DP w hb db lim B L' w2) := by
    obtain ⟨Q', h1, h2⟩ := HMID.out.done HD.out hrp
    exact ⟨Z', Q', h1, HB0.out.trans h2⟩
  clear hrp HR1 HMID HD
  go_wp2
  go_ret
  exact ⟨rfl, HQ.out⟩

/-- The law's does: both answer alike, and are alike behind it. -/
theorem does_any {w : World} {hb db lim B : Nat} {L : List Om} {Z Q : Nat → Prop} (h : Dv w hb db lim B L Z Q) (c : Ac) (hc : c.Ok) :
    Calls Tryd.prog 7 #[.pointer (some ⟨hb, 0, none⟩), .pointer (some ⟨db, 0, none⟩), c.val] w fun e w' => e = .returned (.bool true) ∧ DP w hb db lim B (doesM lim L c) w' := by
  by_cases h0 : c.kind = 0
  · exact does_table h c h0
  · by_cases h1 : c.kind = 1
    · exact does_set h c hc h1
    · by_cases h2 : c.kind = 2
      · exact does_meta h c hc h2
      · by_cases h3 : c.kind = 3
        · exact does_make h c h3
        · by_cases h4 : c.kind = 4
          · exact does_slot h c hc h4
          · by_cases h5 : c.kind = 5
            · exact does_mark h c h5
            · exact does_none h c h0 h1 h2 h3 h4 h5

/-- How many cells both use. -/
theorem lused_any {w : World} {hb lim : Nat} {L : List Om} {Z : Nat → Prop} (h : LH w hb lim L Z) : Calls Tryd.prog 8 #[.pointer (some ⟨hb, 0, none⟩)] w fun e w' => e = .returned (.int .i64 (usedM L : Int)) ∧ w' = w := by
  obtain ⟨used, R, os, hv, rfl⟩ := h
  have := used_hv hv
  rw [hv.sum, ← used_om] at this
  exact this
theorem rused2_any {w : World} {db lim : Nat} {L : List Om} {Q : Nat → Prop} (h : RH w db lim L Q) : Calls Tryd.prog 9 #[.pointer (some ⟨db, 0, none⟩)] w fun e w' => e = .returned (.int .i64 (usedM L : Int)) ∧ ∃ q, w' = w.drewN q := by
  obtain ⟨R, rs, hv, rfl⟩ := h
  rw [used_rom]
  exact rused_any hv
theorem LH.le {w : World} {hb lim : Nat} {L : List Om} {Z : Nat → Prop} (h : LH w hb lim L Z) : usedM L ≤ lim := by
  obtain ⟨used, R, os, hv, rfl⟩ := h
  rw [used_om, ← hv.sum]
  exact hv.hu

end Go.Proofs.YtjlcdpablnnplaaDoor

/-
  HeapBounds: the law, walked.
-/
namespace Go.Proofs.YtjlcdpablnnplaaDoor
set_option maxRecDepth 100000
open Go.RowKit Flo

def Ac.cells (c : Ac) : List Value := [.int .i64 c.kind, .int .i64 c.o, .int .i64 c.a, .int .i64 c.b, .int .i64 c.n, .int .i64 c.k.K, .int .u64 c.k.N, .string c.k.S, .int .i64 c.k.O, .int .i64 c.v.K, .int .u64 c.v.N, .string c.v.S, .int .i64 c.v.O]
/-- The slice v reads as these calls. -/
structure Acs (w : World) (v : Value) (cs : List Ac) : Prop where
  form : ∃ a cap, v = .slice a cs.length cap ∧ (0 < cs.length → ∃ gb go, a = some ⟨gb, go, none⟩ ∧ gb < w.heap.size ∧ ∀ (j : Nat) c, cs[j]? = some c → ∀ t, t < 13 → w.cell? ⟨gb, go + j * 13 + t, none⟩ = c.cells[t]?)
  len : cs.length ≤ 9223372036854775807
  ok : ∀ c ∈ cs, c.Ok
theorem dv_new {w w1 : World} {lim : Nat} (hl : lim ≤ 1048576) (hh : Hv w1 w.heap.size lim 0 (.slice none 0 0) [] (fun k => k = w.heap.size)) (hb : Below w.heap.size w w1) (two : 1 < w.heap.size) (t : Nat) :
    Dv (w1.alloc (.cells #[.slice none 0 0, .int .i64 (lim : Int)] t)) w.heap.size w1.heap.size lim w.heap.size [] (fun k => k = w.heap.size) (fun k => k = w1.heap.size) := by
  have hba : Below w1.heap.size w1 (w1.alloc (.cells #[.slice none 0 0, .int .i64 (lim : Int)] t)) := (Below.refl _ _).alloc (Nat.le_refl _) _
  have hc : ∀ o, (w1.alloc (.cells #[.slice none 0 0, .int .i64 (lim : Int)] t)).cell? ⟨w1.heap.size, o, none⟩ = (#[.slice none 0 0, .int .i64 (lim : Int)] : Array Value)[o]? := fun o => World.cell?_alloc_at _ _ _ _ rfl
  have hlt := hh.lt w.heap.size rfl
  refine ⟨⟨0, _, [], hh.below hba, rfl⟩, ⟨.slice none 0 0, [], ⟨hc 0, hc 1, fun o => World.frozen?_alloc_at _ _ _ _ rfl, World.ownsRow_nil _ _ _ _, fun i r h => by simp at h, fun k hk => by rw [hk]; simp, rfl, fun g hg => by simp [Value.ownBlock] at hg, hl, by show 0 ≤ lim; omega⟩, rfl⟩, fun k h1 h2 => by omega, fun k h1 => by omega, fun k h1 => by have := hb.size; omega, Nat.le_trans hb.size hba.size, two⟩

set_option maxHeartbeats 2000000 in
theorem heapBounds_walk (u : Int) (hu : 0 ≤ u ∧ u ≤ 255) (v : Value) (cs : List Ac) (w : World) (db : Db w) (h : Acs w v cs) :
    Calls Tryd.prog 3 #[.int .u8 u, v] w fun e w' => e = .returned (.bool true) ∧ Below w.heap.size w w' := by
  have two : 1 < w.heap.size := World.block_lt_of_cell? w ⟨1, 0, none⟩ (db 0 (by decide))
  obtain ⟨a, cap, rfl, hf⟩ := h.form
  obtain ⟨lim, hlim⟩ : ∃ lim : Nat, (lim : Int) = u % 40 := ⟨(u % 40).toNat, by omega⟩
  have hl40 : lim < 40 := by omega
  have HLIM := hide_p hlim
  have HN : Hid (∀ w, Db w → Calls Tryd.prog 6 #[.int .i64 (u % 40)] w fun e w' => e = .returned (.tuple #[.pointer (some ⟨w.heap.size, 0, none⟩), .int .i64 0]) ∧ Hv w' w.heap.size lim 0 (.slice none 0 0) [] (fun k => k = w.heap.size) ∧ Below w.heap.size w w') := fun w db => by rw [← hlim]; exact hnew_any lim w (by omega) db
  have HF := hide_p h
  have HF2 := hide_p hf
  have hlen := h.len
  obtain ⟨n, hn⟩ : ∃ n, n = cs.length := ⟨_, rfl⟩
  have HNN := hide_p hn
  rw [← hn] at hlen ⊢
  have HDB := hide_p db
  clear h hf hn db hlim
  go_enter Tryd.func3, Tryd.ntmps3
  go_wp2_with fail
  refine (HN.out w HDB.out).mono ?_
  rintro e w1 ⟨rfl, hh, hb1⟩
  have HDV := hide_p (dv_new (by omega) hh hb1 two 30)
  rw [HLIM.out] at HDV
  have HB2 : Hid (Below w.heap.size w (w1.alloc (.cells #[.slice none 0 0, .int .i64 (u % 40)] 30))) := hb1.alloc hb1.size _
  have HL0 := hide_p (hh.lt w.heap.size rfl)
  clear hh hb1 HN
  go_wp2_with fail
  go_loopg [8] 200 (fun kk t8 wr => ∃ i : Nat, t8 = .int .i64 (i : Int) ∧ i ≤ n ∧ i ≤ 200 ∧ Hid (kk = 200 - i ∧ ∃ L Z Q, Dv wr w.heap.size w1.heap.size lim w.heap.size L Z Q ∧ Below w.heap.size w wr))
  case atStart => exact ⟨0, rfl, Nat.zero_le _, by omega, ⟨rfl, [], _, _, HDV.out, HB2.out⟩⟩
  case round =>
    obtain ⟨i, rfl, hi, hi2, HI⟩ := hrel
    by_cases c : i < n ∧ i < 200
    · obtain ⟨c1, c2⟩ := c
      have c1i : (i : Int) < (n : Int) := by omega
      have c2i : (i : Int) < 200 := by omega
      obtain ⟨gb, go, rfl, hab, hc⟩ := HF2.out (by rw [← HNN.out]; omega)
      obtain ⟨ac, hac⟩ : ∃ ac, cs[i]? = some ac := ⟨cs[i]'(by rw [← HNN.out]; exact c1), List.getElem?_eq_getElem _⟩
      have hcell := hc i ac hac
      obtain ⟨hkk, L, Z, Q, hdv, hlow⟩ := HI.out
      have hcr : ∀ t, t < 13 → wr.cell? ⟨gb, go + i * 13 + t, none⟩ = ac.cells[t]? := fun t ht => (hlow.cell (p := ⟨gb, go + i * 13 + t, none⟩) hab).trans (hcell t ht)
      have x0 := hcr 0 (by omega)
      have x1 := hcr 1 (by omega)
      have x2 := hcr 2 (by omega)
      have x3 := hcr 3 (by omega)
      have x4 := hcr 4 (by omega)
      have x5 := hcr 5 (by omega)
      have x6 := hcr 6 (by omega)
      have x7 := hcr 7 (by omega)
      have x8 := hcr 8 (by omega)
      have x9 := hcr 9 (by omega)
      have x10 := hcr 10 (by omega)
      have x11 := hcr 11 (by omega)
      have x12 := hcr 12 (by omega)
      simp only [Ac.cells, List.getElem?_cons_zero, List.getElem?_cons_succ, Nat.add_zero] at x0 x1 x2 x3 x4 x5 x6 x7 x8 x9 x10 x11 x12
      have hok := HF.out.ok ac (List.mem_of_getElem? hac)
      have HDO := hide_p (does_any hdv ac hok)
      have HK := hide_p hkk
      have HLW := hide_p hlow
      simp only [Ac.val] at HDO
      clear hc hcell hcr hdv hlow hkk HI hac hok
      go_wp2_with fail
      refine HDO.out.mono ?_
      rintro e w2 ⟨rfl, Z2, Q2, hd2, hl2⟩
      have HU1 := hide_p (lused_any hd2.l)
      have HU2 := hide_p (rused2_any hd2.r)
      have hle := hd2.l.le
      have HN2 : Hid (∀ q, ∃ L Z Q, Dv (w2.drewN q) w.heap.size w1.heap.size lim w.heap.size L Z Q ∧ Below w.heap.size w (w2.drewN q)) := fun q => ⟨_, Z2, Q2, hd2.below (hp_drewN w2 q), (HLW.out.trans hl2).trans ((hp_drewN w2 q).mono hd2.le)⟩
      have hlim2 := HLIM.out
      generalize usedM (doesM lim L ac) = us at *
      have hc1 : ¬ ((us : Int) > u % 40) := by omega
      have hc2 : ¬ ((us : Int) > (lim : Int)) := by omega
      clear hlim2 hd2 hl2 HDO x0 x1 x2 x3 x4 x5 x6 x7 x8 x9 x10 x11 x12
      go_wp2_with fail
      refine HU1.out.mono ?_
      rintro e w3 ⟨rfl, hw3⟩
      have hw3s := hw3.symm
      subst hw3s
      go_wp2_with fail
      refine HU1.out.mono ?_
      rintro e w3 ⟨rfl, hw3⟩
      have hw3s := hw3.symm
      subst hw3s
      go_wp2_with fail
      refine HU2.out.mono ?_
      rintro e w4 ⟨rfl, q, rfl⟩
      clear HU1 HU2
      go_wp2_with fail
      go_roundg (200 - (i + 1))
      case measure => have := HK.out; omega
      case rel => exact ⟨i + 1, by go_num, by omega, by omega, ⟨rfl, HN2.out q⟩⟩
    · obtain ⟨_, L, Z, Q, hdv, hlow⟩ := HI.out
      have hdb : Db wr := by
        obtain ⟨_, _, _, h1, _⟩ := hdv.l
        exact h1.db
      have HLV := hide_p (hlives_any wr hdb)
      have HLW := hide_p hlow
      have hcs : ¬ (i : Int) < (n : Int) ∨ ¬ (i : Int) < 200 := by omega
      clear hdv hlow hdb HI c
      by_cases c1 : (i : Int) < (n : Int)
      · have c2 : ¬ (i : Int) < 200 := by omega
        go_wp2_with fail
        refine HLV.out.mono ?_
        rintro e w2 ⟨rfl, hb2⟩
        have HE := hide_p (HLW.out.trans (hb2.mono HLW.out.size))
        clear hb2 HLV
        go_wp2
        go_ret
        exact ⟨rfl, HE.out⟩
      · go_wp2_with fail
        refine HLV.out.mono ?_
        rintro e w2 ⟨rfl, hb2⟩
        have HE := hide_p (HLW.out.trans (hb2.mono HLW.out.size))
        clear hb2 HLV
        go_wp2
        go_ret
        exact ⟨rfl, HE.out⟩

end Go.Proofs.YtjlcdpablnnplaaDoor

/-
  What the rows' readings give the walk of HeapBounds: calls that came in.
-/
namespace Go.Proofs.YtjlcdpablnnplaaDoor
set_option maxRecDepth 100000
open Go.ChangeShapes Go.WideShapes Go.ChangeAt Go.RowKit Flo

theorem some_at3 {α : Type} {l : List α} {n i : Nat} (h : l.length = n) (hi : i < n) : ∃ y, l[i]? = some y := ⟨l[i]'(by omega), List.getElem?_eq_getElem (by omega)⟩
theorem add_mk3 (b o n : Nat) : Addr.add ⟨b, o, none⟩ n = ⟨b, o + n, none⟩ := by unfold Addr.add; split <;> simp_all
theorem spot_none3 {W : World} {a : Addr} {u : Value} (h : W.cell? a = some u) : a.spot = none := by
  obtain ⟨b, o, s⟩ := a
  cases s with
  | none => rfl
  | some k =>
    unfold World.cell? at h
    split at h <;> simp at h
theorem cells_n {W : World} {a : Addr} {n : Nat} {cs : List Value} (h : W.cells? 0 a n = some cs) : cs.length = n ∧ ∀ t, t < n → W.cell? (a.add t) = cs[t]? := by
  unfold World.cells? at h
  rw [if_pos (Nat.zero_le _)] at h
  refine ⟨(Lib.mapM_length h).trans (by simp), fun t ht => ?_⟩
  obtain ⟨b, e, f⟩ := Lib.mapM_at h t t (by simp [ht])
  rw [e]
  exact f
theorem list4' {cs : List Value} (h : cs.length = 4) : ∃ a b c d, cs = [a, b, c, d] := by
  match cs, h with
  | [a, b, c, d], _ => exact ⟨a, b, c, d, rfl⟩
theorem list13 {cs : List Value} (h : cs.length = 13) : ∃ c0 c1 c2 c3 c4 c5 c6 c7 c8 c9 c10 c11 c12, cs = [c0, c1, c2, c3, c4, c5, c6, c7, c8, c9, c10, c11, c12] := by
  match cs, h with
  | [c0, c1, c2, c3, c4, c5, c6, c7, c8, c9, c10, c11, c12], _ => exact ⟨c0, c1, c2, c3, c4, c5, c6, c7, c8, c9, c10, c11, c12, rfl⟩
theorem cellsInt3 : Tryd.prog.cellsOf 3 = 1 := by kernel_rfl
theorem cellsNum3 : Tryd.prog.cellsOf 33 = 1 := by kernel_rfl
theorem cellsStr3 : Tryd.prog.cellsOf 9 = 1 := by kernel_rfl
theorem cellsVal3 : Tryd.prog.cellsOf 35 = 4 := by kernel_rfl
theorem cellsAct3 : Tryd.prog.cellsOf 37 = 13 := by kernel_rfl

theorem trod_val {H : Type} {enc : TypeId × Value → H} {W : World} {sp : Nat → Bool} {held : Bool} {fuel : Nat} {cs : List Value} {x : DataW H × List MemPlace} (h : DataW.trod enc Tryd.prog W 0 sp held fuel 35 cs = some x) :
    ∃ v : V4, cs = [.int .i64 v.K, .int .u64 v.N, .string v.S, .int .i64 v.O] ∧ U64 v.N ∧ v.S.size ≤ 9223372036854775807 := by
  obtain ⟨xs, n, rfl, rfl, hlen, hxl, hf⟩ := DataW.trod_struct Tryd.underlying35 h
  rw [cellsVal3] at hlen
  obtain ⟨c0, c1, c2, c3, rfl⟩ := list4' hlen
  have h0 : DataW.trod enc Tryd.prog W 0 sp held n 3 (([c0, c1, c2, c3].drop 0).take (Tryd.prog.cellsOf 3)) = xs[0]? := hf 0 _ rfl
  have h1 : DataW.trod enc Tryd.prog W 0 sp held n 33 (([c0, c1, c2, c3].drop 1).take (Tryd.prog.cellsOf 33)) = xs[1]? := hf 1 _ rfl
  have h2 : DataW.trod enc Tryd.prog W 0 sp held n 9 (([c0, c1, c2, c3].drop 2).take (Tryd.prog.cellsOf 9)) = xs[2]? := hf 2 _ rfl
  have h3 : DataW.trod enc Tryd.prog W 0 sp held n 3 (([c0, c1, c2, c3].drop 3).take (Tryd.prog.cellsOf 3)) = xs[3]? := hf 3 _ rfl
  obtain ⟨y0, e0⟩ := some_at3 hxl (i := 0) (by decide)
  obtain ⟨y1, e1⟩ := some_at3 hxl (i := 1) (by decide)
  obtain ⟨y2, e2⟩ := some_at3 hxl (i := 2) (by decide)
  obtain ⟨y3, e3⟩ := some_at3 hxl (i := 3) (by decide)
  rw [e0] at h0
  rw [e1] at h1
  rw [e2] at h2
  rw [e3] at h3
  simp only [cellsInt3, cellsNum3, cellsStr3, List.drop_zero, List.drop_succ_cons, List.take_succ_cons, List.take_zero] at h0 h1 h2 h3
  obtain ⟨k, hk, _, _⟩ := DataW.trod_int Tryd.underlying3 h0
  obtain ⟨m, hm, _, wm⟩ := DataW.trod_int Tryd.underlying33 h1
  obtain ⟨s, hs, _, ws⟩ := DataW.trod_string Tryd.underlying9 h2
  obtain ⟨o, ho, _, _⟩ := DataW.trod_int Tryd.underlying3 h3
  injection hk with hk _
  injection hm with hm _
  injection hs with hs _
  injection ho with ho _
  subst hk hm hs ho
  have bm : 0 ≤ m ∧ m ≤ 18446744073709551615 := by simpa [Lit.wf, IntKind.min, IntKind.max, IntKind.signed, IntKind.bits] using wm
  unfold maxLen at ws
  exact ⟨⟨k, m, s, o⟩, rfl, ⟨by simp only; omega, by simp only; omega⟩, by simp only; omega⟩

theorem trod_act {H : Type} {enc : TypeId × Value → H} {W : World} {sp : Nat → Bool} {held : Bool} {fuel : Nat} {cs : List Value} {x : DataW H × List MemPlace} (h : DataW.trod enc Tryd.prog W 0 sp held fuel 37 cs = some x) :
    ∃ c : Ac, cs = c.cells ∧ c.Ok := by
  obtain ⟨xs, n, rfl, rfl, hlen, hxl, hf⟩ := DataW.trod_struct Tryd.underlying37 h
  rw [cellsAct3] at hlen
  obtain ⟨c0, c1, c2, c3, c4, c5, c6, c7, c8, c9, c10, c11, c12, rfl⟩ := list13 hlen
  have hI : ∀ (i : Nat) u, (∃ y, DataW.trod enc Tryd.prog W 0 sp held n 3 [u] = some y) → ∃ k : Int, u = .int .i64 k := fun _ u ⟨y, hy⟩ => by
    obtain ⟨k, hk, _, _⟩ := DataW.trod_int Tryd.underlying3 hy
    injection hk with hk _
    exact ⟨k, hk⟩
  have h0 : DataW.trod enc Tryd.prog W 0 sp held n 3 [c0] = xs[0]? := hf 0 _ rfl
  have h1 : DataW.trod enc Tryd.prog W 0 sp held n 3 [c1] = xs[1]? := hf 1 _ rfl
  have h2 : DataW.trod enc Tryd.prog W 0 sp held n 3 [c2] = xs[2]? := hf 2 _ rfl
  have h3 : DataW.trod enc Tryd.prog W 0 sp held n 3 [c3] = xs[3]? := hf 3 _ rfl
  have h4 : DataW.trod enc Tryd.prog W 0 sp held n 3 [c4] = xs[4]? := hf 4 _ rfl
  have h5 : DataW.trod enc Tryd.prog W 0 sp held n 35 [c5, c6, c7, c8] = xs[5]? := hf 5 _ rfl
  have h6 : DataW.trod enc Tryd.prog W 0 sp held n 35 [c9, c10, c11, c12] = xs[6]? := hf 6 _ rfl
  obtain ⟨y0, e0⟩ := some_at3 hxl (i := 0) (by decide)
  obtain ⟨y1, e1⟩ := some_at3 hxl (i := 1) (by decide)
  obtain ⟨y2, e2⟩ := some_at3 hxl (i := 2) (by decide)
  obtain ⟨y3, e3⟩ := some_at3 hxl (i := 3) (by decide)
  obtain ⟨y4, e4⟩ := some_at3 hxl (i := 4) (by decide)
  obtain ⟨y5, e5⟩ := some_at3 hxl (i := 5) (by decide)
  obtain ⟨y6, e6⟩ := some_at3 hxl (i := 6) (by decide)
  obtain ⟨k0, rfl⟩ := hI 0 c0 ⟨y0, h0.trans e0⟩
  obtain ⟨k1, rfl⟩ := hI 1 c1 ⟨y1, h1.trans e1⟩
  obtain ⟨k2, rfl⟩ := hI 2 c2 ⟨y2, h2.trans e2⟩
  obtain ⟨k3, rfl⟩ := hI 3 c3 ⟨y3, h3.trans e3⟩
  obtain ⟨k4, rfl⟩ := hI 4 c4 ⟨y4, h4.trans e4⟩
  obtain ⟨kk, ek, ok1, ok2⟩ := trod_val (h5.trans e5)
  obtain ⟨vv, ev, ov1, _⟩ := trod_val (h6.trans e6)
  simp only [List.cons.injEq, and_true] at ek ev
  obtain ⟨rfl, rfl, rfl, rfl⟩ := ek
  obtain ⟨rfl, rfl, rfl, rfl⟩ := ev
  exact ⟨⟨k0, k1, k2, k3, k4, kk, vv⟩, rfl, ⟨ok1, ov1, ok2⟩⟩

/-- A small number that came in. -/
theorem open_u8h {W : World} {base : Nat} {v : Value} (hval : Value.okWide Tryd.prog W .any base 5 v) : ∃ n : Int, v = .int .u8 n ∧ 0 ≤ n ∧ n ≤ 255 := by
  simp only [Value.okWide, Tryd.underlying5] at hval
  obtain ⟨n, rfl, hb⟩ := cell_int8 Tryd.underlying5 hval
  simp [IntKind.has, IntKind.min, IntKind.max, IntKind.signed, IntKind.bits] at hb
  exact ⟨n, rfl, by omega, by omega⟩

/-- Calls that came in. -/
theorem open_acts {H : Type} {enc : TypeId × Value → H} {W : World} {base : Nat} {v : Value} {d : DataW H} {p : List MemPlace}
    (hval : Value.okWide Tryd.prog W .any base 22 v) (h0 : DataW.Trod enc Tryd.prog W 0 (fun _ => true) true 22 v d p) : ∃ cs, Acs W v cs := by
  obtain ⟨a, len, cap, rfl⟩ := okWide_slice Tryd.underlying22 hval
  obtain ⟨fuel, hf⟩ := h0
  rcases DataW.trod_slice Tryd.underlying22 hf with ⟨hc, _⟩ | ⟨a', len', cap', elems, rest, q, rfl, hc, _, _, hlc, hcm, hel, hat, _⟩
  · simp [Value.cells] at hc
    obtain ⟨rfl, rfl, rfl⟩ := hc
    exact ⟨[], ⟨none, 0, rfl, fun c => by simp at c⟩, by simp, fun c hc => by cases hc⟩
  · simp [Value.cells] at hc
    obtain ⟨rfl, rfl, rfl⟩ := hc
    rw [cellsAct3] at hat
    have key : ∀ i, ∃ c : Ac, i < len → c.Ok ∧ ∀ t, t < 13 → W.cell? ((a'.add (i * 13)).add t) = c.cells[t]? := by
      intro i
      by_cases hi : i < len
      · obtain ⟨y, ey⟩ := some_at3 hel hi
        have hb := hat i hi
        rw [ey] at hb
        obtain ⟨cs, hcs, htr⟩ := Option.bind_eq_some_iff.1 hb
        obtain ⟨c, rfl, hok⟩ := trod_act htr
        exact ⟨c, fun _ => ⟨hok, (cells_n hcs).2⟩⟩
      · exact ⟨⟨0, 0, 0, 0, 0, V0, V0⟩, fun h => absurd h hi⟩
    obtain ⟨f, hf2⟩ := Classical.axiomOfChoice key
    have hl : ((List.range len).map f).length = len := by simp
    unfold maxLen at hcm
    refine ⟨(List.range len).map f, ⟨some a', cap, by rw [hl], fun c => ?_⟩, by rw [hl]; omega, fun c hc => ?_⟩
    · rw [hl] at c
      have g0 := (hf2 0 c).2 0 (by omega)
      have hsp : a'.spot = none := by
        have e : (a'.add (0 * 13)).add 0 = a' := by
          obtain ⟨b, o, sp⟩ := a'
          cases sp <;> simp [Addr.add]
        rw [e] at g0
        have hs : W.cell? a' = some (.int .i64 (f 0).kind) := g0
        exact spot_none3 hs
      obtain ⟨gb, go, sp⟩ := a'
      simp only at hsp
      subst hsp
      refine ⟨gb, go, rfl, ?_, fun j c0 hj t ht => ?_⟩
      · rw [add_mk3, add_mk3] at g0
        have hs : W.cell? ⟨gb, go + 0 * 13 + 0, none⟩ = some (.int .i64 (f 0).kind) := g0
        exact World.block_lt_of_cell? W _ hs
      · have hjl : j < len := by
          rcases Nat.lt_or_ge j len with q | q
          · exact q
          · rw [List.getElem?_eq_none (by rw [hl]; exact q)] at hj; cases hj
        rw [List.getElem?_map, List.getElem?_range hjl] at hj
        have e : f j = c0 := Option.some.inj hj
        have := (hf2 j hjl).2 t ht
        rw [add_mk3, add_mk3, e] at this
        exact this
    · obtain ⟨i, hi, rfl⟩ := List.mem_map.1 hc
      exact (hf2 i (List.mem_range.1 hi)).1

end Go.Proofs.YtjlcdpablnnplaaDoor

/-
  For every limit and every calls: never more cells are used than the limit, both heaps answer alike, and use as many cells: the statement HeapBounds. Conditions: the library's table of bits reads as the row lays it (tied to the program's text by the card).
-/
namespace Go.Proofs.YtjlcdpablnnplaaDoor.heapBounds
set_option maxRecDepth 100000
open Go.ChangeShapes Go.WideShapes Go.ChangeAt Go.RowKit

theorem contract (H : Type) (enc : TypeId × Value → H) (W : World) (base : Nat) (args : Array Value) (ds gs : List (DataW H)) (before : List MemPlace)
    (hval0 : ∀ (j : Nat) t v, Tryd.f3.params[j]? = some t → args[j]? = some v → Value.okWide Tryd.prog W .any base t v)
    (hW : DataW.Whole enc Tryd.prog Tryd.f3.params.toList Rows.heapBoundsSpec.vars false W args.toList ds gs before) (hL : laidMetH Tryd.prog laidDb W)
    (hsz : (DataW.weightsEach Tryd.prog (Tryd.f3.params.toList ++ (OpenSpec.ofChange Rows.heapBoundsSpec).bare.plain.varTypes Tryd.prog) (ds ++ gs)).all (· ≤ reachBytes) = true) :
    Calls Tryd.prog 3 args W fun e W' => ∃ v, e = .returned v ∧ Rows.heapBoundsSpec.post enc Tryd.prog Tryd.f3 false true false false W args v W' := by
  have hval : ∀ (j : Nat) t v, Tryd.f3.params[j]? = some t → args[j]? = some v → Value.okWide Tryd.prog W .any base t v := hval0
  have hW' := hW
  obtain ⟨p, q, hA0, hV, rfl, hfz, hnd⟩ := hW
  have hA : DataW.TrodAll enc Tryd.prog W 0 (fun _ => true) true Tryd.f3.params.toList args.toList ds p := hA0
  rw [Tryd.params3] at hA hval hsz
  obtain ⟨v0, vs0, d0, ds0, p0, q0, hargs, rfl, rfl, h0, r0⟩ := trodAll_cons hA
  obtain ⟨v1, vs1, d1, ds1, p1, q1, e1, rfl, rfl, h1, r1⟩ := trodAll_cons r0
  subst e1
  obtain ⟨rfl, rfl, rfl⟩ := trodAll_nil r1
  obtain rfl : args = #[v0, v1] := by cases args; simp_all
  obtain ⟨rfl, rfl⟩ := trodVars_none hV
  have lt0 : ∀ x ∈ p0, x.block < W.heap.size := by obtain ⟨m, hm⟩ := h0; exact DataW.trod_lt m _ _ _ hm
  have lt1 : ∀ x ∈ p1, x.block < W.heap.size := by obtain ⟨m, hm⟩ := h1; exact DataW.trod_lt m _ _ _ hm
  obtain ⟨k0, rfl, g0⟩ := open_u8h (hval 0 5 v0 rfl rfl)
  obtain ⟨cs, i1⟩ := open_acts (hval 1 22 v1 rfl rfl) h1
  have hT := dbTab hL
  clear hA0 hval0
  refine (heapBounds_walk k0 g0 v1 cs W hT i1).mono fun e W' ⟨he, bel⟩ => ?_
  subst he
  exact ⟨_, rfl, _, _, _, [], _, [], hW', trodAll_mk1 (shut_bool Tryd.underlying4 _), (trodAll_cons_mk (Below.trod laidOut (by kernel_rfl) (of_decide_eq_true (by kernel_rfl)) h0 bel lt0) (trodAll_cons_mk (Below.trod laidOut (by kernel_rfl) (of_decide_eq_true (by kernel_rfl)) h1 bel lt1) trodAll_mk0)), rfl, bel.frame _, fun h => by cases h⟩

theorem laid_met (os : Os) : laidMet Tryd.prog Rows.heapBoundsRow.laid ((World.doorLaid Tryd.prog 4000 os).forCall (fun _ _ => 0) ⟨#[], #[.int .u8 0, .slice none 0 0], []⟩).memory :=
  laidMet_of_run' 8 (by kernel_rfl) (by kernel_rfl)
theorem reads (os : Os) {H : Type} (enc : TypeId × Value → H) : ∃ places, DataW.whole enc Tryd.prog ((World.doorLaid Tryd.prog 4000 os).forCall (fun _ _ => 0) ⟨#[], #[.int .u8 0, .slice none 0 0], []⟩).memory Tryd.f3.params.toList Rows.heapBoundsSpec.vars false (#[.int .u8 0, .slice none 0 0] : Array Value).toList 8 = some ([.lit (.int .u8 0), .nil], [], places) :=
  ⟨[], by kernel_rfl⟩

set_option maxRecDepth 100000 in
theorem lifted (os : Os) (started : os.Started) (H : Type) (enc : TypeId × Value → H) (F : Stop.Interp) :
    ReturnsInHanded {} Tryd.checked os 3 .any ((OpenSpec.ofChange Rows.heapBoundsSpec).preRow enc Tryd.prog Tryd.f3 Rows.heapBoundsRow.domain false Rows.heapBoundsRow.laid) (((OpenSpec.ofChange Rows.heapBoundsSpec).at F).post enc Tryd.prog Tryd.f3 false true false false) := by
  obtain ⟨places, hx⟩ := reads os enc
  refine returnsInHanded_of_row (C := Tryd.checked) (s := OpenSpec.ofChange Rows.heapBoundsSpec) ownKnob_none started (by kernel_rfl) Tryd.func3
    (witness_row_at (enc := enc) (C := Tryd.checked) false (World.doorLaid Tryd.prog 4000 os) #[.int .u8 0, .slice none 0 0] rfl (by kernel_rfl) (by kernel_rfl) (by kernel_rfl)
      (OpenSpec.preRow_of_cond 8 hx (by kernel_rfl) (fun k hk => by cases hk) (by kernel_rfl) (laid_met os))) ?_
  intro W base args ds gs before hval hW _ _ hsz hL _ _
  exact contract H enc W base args ds gs before hval hW hL hsz

theorem said : Rows.HeapBoundsSaid :=
  OpenClaim.holds_of_cond 3 Tryd.f3 rfl rfl rfl rfl rfl rfl rfl ⟨rfl, rfl, rfl, rfl, rfl⟩ rfl rfl rfl rfl rfl (by kernel_rfl) Tryd.func3 (by kernel_rfl)
    (of_decide_eq_true (by kernel_rfl)) (by unfold Func.isWrapper; first | (rw [if_pos (by decide +kernel)]; kernel_rfl) | (rw [if_neg (by decide +kernel)]; exact ⟨rfl, rfl⟩))
    (fun os started H enc _ F => by rw [OpenClaim.pre_eq_preRow]; exact lifted os started H enc F)

theorem plain (f : FuncId) (fn : Func) (hf : Tryd.pinned.checked.prog.funcNamed "minstrel/minstrellaw09.HeapBounds" = some f) (hfn : Tryd.pinned.checked.prog.funcs[f]? = some fn) :
    false = Tryd.pinned.checked.prog.looks [] ∧ ∀ (j : Nat) t, fn.params[j]? = some t → Tryd.pinned.checked.prog.wantsStandIn t = false := by
  obtain rfl : f = 3 := Option.some.inj ((show Tryd.prog.funcNamed "minstrel/minstrellaw09.HeapBounds" = some 3 by kernel_rfl).symm.trans hf) |>.symm
  obtain rfl : fn = Tryd.f3 := (Option.some.inj (Tryd.func3.symm.trans hfn)).symm
  refine ⟨by kernel_rfl, fun j t ht => ?_⟩
  rw [Tryd.params3] at ht
  have hm : t ∈ [5, 22] := by simpa using Array.mem_of_getElem? ht
  have hall : ([5, 22].all fun u => !Tryd.prog.wantsStandIn u) = true := by kernel_rfl
  exact (show Tryd.prog.wantsStandIn t = false by simpa using List.all_eq_true.1 hall t hm)

/-- The statement. -/
theorem proved : Rows.HeapBoundsCardSaid :=
  Claim7.holds_tied_plain_at .later [] _ _ _ _ said (fun _ h => by cases h) (by kernel_rfl) (fun _ h => by cases h) heapBounds_row_tie rfl ⟨rfl, rfl⟩ (by kernel_rfl) rfl plain (by kernel_rfl)
end Go.Proofs.YtjlcdpablnnplaaDoor.heapBounds
