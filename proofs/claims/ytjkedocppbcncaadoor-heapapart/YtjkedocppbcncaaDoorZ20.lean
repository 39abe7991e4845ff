/-
  DigNew, DecTen, DecNear, DecNear2, DecParse, Val3
-/
import Derived.Deep.DeepCutAuto
import Derived.Test.YtjkedocppbcncaaDoorZ19

/-
  Trim, Sum and Minus once more: what they hand back lies in a block of its own.
-/
namespace Go.Proofs.YtjkedocppbcncaaDoor
set_option maxRecDepth 100000
open Go.RowKit Dg

/-- A slice whose block is not one of the first B. -/
def Fresh (B : Nat) (v : Value) : Prop := ∀ g, v.ownBlock = some g → B ≤ g
theorem Fresh.mono {B B' : Nat} {v : Value} (h : Fresh B v) (hb : B' ≤ B) : Fresh B' v := fun g hg => Nat.le_trans hb (h g hg)
theorem fresh_made (w : World) : Fresh w.heap.size (.slice (some ⟨w.heap.size, 0, none⟩) 0 0) := by
  intro g hg; simp [Value.ownBlock] at hg; omega

set_option maxHeartbeats 400000 in
theorem trim_new (v : Value) (n l : Nat) (w : World) (hD : D w v n l) (hl : l ≤ 1073741824) :
    Calls Tryd.prog 79 #[v] w fun e w' => ∃ v', e = .returned v' ∧ D w' v' n (dlen n) ∧ Below w.heap.size w w' ∧ Fresh w.heap.size v' := by
  have hsh := hD.shape
  have hlt := hD.lt
  obtain ⟨ds, g, cap, rfl, hlen, hsm, hval, hown⟩ := hD
  obtain ⟨g', cap', hv', hg, hlc, hcm, hcell⟩ := hsh
  obtain ⟨rfl, rfl⟩ : g = g' ∧ cap = cap' := by simpa using hv'
  clear hv'
  unfold maxLen at hcm
  obtain ⟨i0, hi, hz0, hz1, hz2⟩ := info_parts infoU
  go_enter Tryd.func79, Tryd.ntmps79
  go_wp2
  go_loop [3] (fun t => ∃ k : Nat, k ≤ l ∧ t = .int .i64 k ∧ n < 65536 ^ k) (fun t => (intOf t).toNat)
  case atStart => exact ⟨l, Nat.le_refl _, rfl, hlt⟩
  case round =>
    obtain ⟨k, hk, rfl, hn⟩ := hrel
    cases k with
    | zero =>
      have hz : n = 0 := by simpa using hn
      clear hcell
      go_wp2
      go_ret
      exact ⟨_, rfl, D_empty w, (Below.refl _ _).alloc (Nat.le_refl _) _, fresh_made w⟩
    | succ k =>
      have hc := hcell k (by omega)
      clear hcell
      by_cases c : dig n k = 0
      · rw [c] at hc
        go_wp2
        go_round
        case rel => exact ⟨k, by omega, by go_num, lt_of_dig hn c⟩
        case measure => simp [intOf]
      · have hcz : (((dig n k : Nat) : Int) == 0) = false := by rw [beq_eq_false_iff_ne]; omega
        have hds : (cells (ds.take (k + 1))).length = (k + 1) * 1 := by rw [cells_length, List.length_take]; omega
        have HN : Hid (∀ j u, (cells (ds.take (k + 1)))[j]? = some u → (w.alloc (.cells #[] 32)).cell? ((⟨g, 0, none⟩ : Addr).add j) = some u) := news_of_own hown _
        have hm : (w.alloc (.cells #[] 32)).ownsRow w.heap.size 32 1 (.slice (some ⟨w.heap.size, 0, none⟩) 0 0) 0 [] := World.ownsRow_made w #[] 0 (Nat.le_refl _) (by decide) rfl
        have h1 := cells_one (ds.take (k + 1))
        have hv : val (ds.take (k + 1)) = n := by rw [val_take ds (k + 1) hsm (by omega), hval, Nat.mod_eq_of_lt hn]
        have hlast : k + 1 = dlen n := dlen_eq hn (Or.inr (by simpa using c))
        have HV : Hid (val (ds.take (k + 1)) = n ∧ k + 1 = dlen n) := ⟨hv, hlast⟩
        have hs := small_take (k + 1) hsm
        clear hv hlast
        go_wp2_with (at_builtin; refine wpList_append_own _ rfl _ _ 68 rfl w.heap.size 32 i0 (.int .u64 0) 1 8 Tryd.underlying68 hi hz0 hz1 hz2 rfl (by decide) _ 0 [] rfl hm ⟨g, 0, none⟩ (k + 1) cap (cells (ds.take (k + 1))) rfl hds HN.out h1 (by unfold maxLen; omega) (by omega) (by simp) ?_)
        intro v' w1 hown' hgrow _
        have R := trim_close (ownsRow_base hown') hgrow hs HV.out
        have F : Fresh w.heap.size v' := fun g hg => (hown'.lt g hg).1
        clear hown' hgrow
        go_wp2
        go_ret
        exact ⟨_, rfl, R.1, R.2, F⟩

end Go.Proofs.YtjkedocppbcncaaDoor

/-
  Powers of ten: what the reference's Ten will need.
-/
namespace Go.Proofs.YtjkedocppbcncaaDoor
set_option maxRecDepth 100000
open Go.RowKit Dg Flo

theorem pow_ten_lt (n : Nat) : 10 ^ n ≤ 2 ^ (4 * n) := by
  rw [Nat.pow_mul]; exact Nat.pow_le_pow_left (by decide) n
theorem dlen_ten {N n L : Nat} (h : N ≤ 10 ^ n) (hL : 4 * n + 1 ≤ 16 * L) : dlen N ≤ L := by
  refine dlen_pow (K := 4 * n + 1) ?_ hL
  have := pow_ten_lt n
  rw [Nat.pow_succ]
  have := Nat.two_pow_pos (4 * n)
  omega
theorem ten_step_odd {N P k T : Nat} (h : N * P ^ k = T) (hk : k % 2 = 1) : N * P * (P * P) ^ (k / 2) = T := by
  rw [← h]
  have e : k = 1 + 2 * (k / 2) := by omega
  conv => rhs; rw [e, Nat.pow_add, Nat.pow_mul, Nat.pow_one, Nat.pow_two]
  rw [Nat.mul_assoc]
theorem ten_step_even {N P k T : Nat} (h : N * P ^ k = T) (hk : k % 2 = 0) : N * (P * P) ^ (k / 2) = T := by
  rw [← h]
  have e : k = 2 * (k / 2) := by omega
  conv => rhs; rw [e, Nat.pow_mul, Nat.pow_two]
theorem ten_parts {N P k T : Nat} (h : N * P ^ k = T) (hT : 0 < T) : 0 < N ∧ N ≤ T ∧ (0 < k → P ≤ T) := by
  have hN : 0 < N := by
    rcases Nat.eq_zero_or_pos N with c | c
    · rw [c, Nat.zero_mul] at h; omega
    · exact c
  have hP : 0 < P ^ k := by
    rcases Nat.eq_zero_or_pos (P ^ k) with c | c
    · rw [c, Nat.mul_zero] at h; omega
    · exact c
  refine ⟨hN, ?_, ?_⟩
  · rw [← h]; exact Nat.le_mul_of_pos_right _ hP
  · intro hk
    have h1 : P ≤ P ^ k := by
      rcases Nat.eq_zero_or_pos P with c | c
      · omega
      · exact Nat.le_pow hk
    exact Nat.le_trans h1 (by rw [← h]; exact Nat.le_mul_of_pos_left _ hN)

end Go.Proofs.YtjkedocppbcncaaDoor

/-
  The landed nearest, walked; read of any text.
-/
namespace Go.Proofs.YtjkedocppbcncaaDoor
set_option maxRecDepth 100000
open Go.RowKit Pt Flo Txt

end Go.Proofs.YtjkedocppbcncaaDoor

/-
  The landed nearest and Parse, walked: the rung nearest to what a numeral says.
-/
namespace Go.Proofs.YtjkedocppbcncaaDoor
set_option maxRecDepth 100000
open Go.RowKit Pt Flo Txt

/-- The exponents between which something is left. -/
def tc (x : Int) : Int := min (max x (-800)) 400
theorem dec_clamp {D : Nat} {x : Int} (h0 : D ≠ 0) (hD : D < 10 ^ DG) : decN D (tc x) = decN D x := by
  unfold tc
  by_cases c1 : x ≤ -800
  · rw [show min (max x (-800)) 400 = -800 by omega, dec_tiny hD c1, dec_tiny hD (by omega)]
  · by_cases c2 : 400 ≤ x
    · rw [show min (max x (-800)) 400 = 400 by omega, dec_huge h0 c2, dec_huge h0 (by omega)]
    · rw [show min (max x (-800)) 400 = x by omega]
theorem dec_held {D : Nat} {x E : Int} (hD : D < 10 ^ DG) (h : Held x E) : decN D x = decN D E := by
  by_cases h0 : D = 0
  · subst h0; rw [decN_zero, decN_zero]
  · rcases h with h | h | h
    · rw [h]
    · rw [dec_huge h0 (by omega), dec_huge h0 (by omega)]
    · rw [dec_tiny hD (by omega), dec_tiny hD (by omega)]
theorem decN_parts {D a b : Nat} {t : Int} (ha : (a : Int) = max t 0) (hb : (b : Int) = max (-t) 0) : nearR (D * 10 ^ a) (1 * 10 ^ b) = decN D t := by
  unfold decN
  by_cases c : 0 ≤ t
  · rw [if_pos c, show b = 0 by omega, show t.toNat = a by omega]
  · rw [if_neg c, show a = 0 by omega, show (-t).toNat = b by omega, Nat.pow_zero, Nat.mul_one, Nat.one_mul]
theorem ten_bound {N a K : Nat} (h : N < 10 ^ K) : N * 10 ^ a < 2 ^ (4 * (K + a)) := by
  refine Nat.lt_of_lt_of_le (Nat.mul_lt_mul_of_pos_right h (Nat.pow_pos (by decide))) ?_
  rw [← Nat.pow_add]; exact pow_ten_lt _

end Go.Proofs.YtjkedocppbcncaaDoor

/-
  The landed Parse, walked: what is said of any text.
-/
namespace Go.Proofs.YtjkedocppbcncaaDoor
set_option maxRecDepth 100000
open Go.RowKit Pt Flo Txt

theorem numL_all {l D : List UInt8} {E : Int} (h : numL l = some (D, E)) : AllD D ∧ D.length ≤ l.length := by
  have hlen := congrArg List.length (dig_rst l)
  rw [List.length_append] at hlen
  unfold numL at h
  split at h
  · simp at h
  · split at h
    · simp at h
      obtain ⟨rfl, rfl⟩ := h
      exact ⟨allD_take l, by omega⟩
    · next c r hr =>
      rw [hr, List.length_cons] at hlen
      have hlen2 := congrArg List.length (dig_rst r)
      rw [List.length_append] at hlen2
      split at h
      · split at h
        · simp at h
        · obtain ⟨x, hx, h2⟩ := Option.map_eq_some_iff.1 h
          simp at h2
          obtain ⟨rfl, rfl⟩ := h2
          refine ⟨?_, by rw [List.length_append]; omega⟩
          intro c hc
          rcases List.mem_append.1 hc with q | q
          · exact allD_take l c q
          · exact allD_take r c q
      · obtain ⟨x, hx, h2⟩ := Option.map_eq_some_iff.1 h
        simp at h2
        obtain ⟨rfl, rfl⟩ := h2
        exact ⟨allD_take l, by omega⟩
theorem dv_bound {D : List UInt8} (hD : AllD D) (hl : D.length ≤ 400) : dv D 0 < 10 ^ DG := by
  have := dv_lt D 0 hD
  rw [Nat.zero_add, Nat.one_mul] at this
  exact Nat.lt_of_lt_of_le this (Nat.pow_le_pow_right (by decide) (by rw [DG_eq]; exact hl))
/-- What Parse answers. -/
def parseW (l : List UInt8) : Nat × Nat :=
  if 400 < l.length then (0, 2) else
  match numL l with
  | none => (0, 4)
  | some (D, E) => (decN (dv D 0) E, 0)
theorem parseW_long {l : List UInt8} (h : 400 < l.length) : parseW l = (0, 2) := by unfold parseW; rw [if_pos h]
theorem parseW_none {l : List UInt8} (h : l.length ≤ 400) (h2 : numL l = none) : parseW l = (0, 4) := by unfold parseW; rw [if_neg (by omega), h2]
theorem parseW_some {l D : List UInt8} {E : Int} (h : l.length ≤ 400) (h2 : numL l = some (D, E)) : parseW l = (decN (dv D 0) E, 0) := by unfold parseW; rw [if_neg (by omega), h2]

end Go.Proofs.YtjkedocppbcncaaDoor

/-
  Layer 8: the landed Key, Truth, Name, and lives, walked.
-/
namespace Go.Proofs.YtjkedocppbcncaaDoor
set_option maxRecDepth 100000
open Go.RowKit Flo

theorem same_self {K N : Int} (S : ByteArray) (O : Int) (hN : U64 N) (h : nK K ≠ 0) : sameB (nK K) (nN K N) (nS K S) (nO K O) (nK K) (nN K N) (nS K S) (nO K O) = kok K N := by
  rw [Bool.eq_iff_iff, same_key (nN_u64 hN) (nN_u64 hN), kok_norm, nK_nK]
  constructor
  · rintro (⟨a, _⟩ | ⟨a, _⟩)
    · exact a
    · exact absurd a h
  · intro a
    exact Or.inl ⟨a, a, rfl, rfl, rfl, rfl⟩
theorem key_zero {K N : Int} (S : ByteArray) (O : Int) (h : kok K N = false) : yK K N = 0 ∧ yN K N = 0 ∧ yS K N S = ⟨#[]⟩ ∧ yO K N O = 0 := by
  unfold yK yN yS yO
  rw [h]
  exact ⟨rfl, rfl, rfl, rfl⟩
theorem key_some {K N : Int} (S : ByteArray) (O : Int) (h : kok K N = true) : yK K N = nK K ∧ yN K N = kN K N ∧ yS K N S = nS K S ∧ yO K N O = nO K O := by
  unfold yK yN yS yO
  rw [h]
  exact ⟨rfl, rfl, rfl, rfl⟩
theorem kN_abs {N : Int} (h : mag (nN 3 N) = 0) : absZ (nN 3 N) = 0 := by
  unfold absZ nanB
  rw [h]; rfl

set_option maxHeartbeats 4000000 in
theorem key_any (K N : Int) (S : ByteArray) (O : Int) (w : World) (hN : U64 N) :
    Calls Tryd.prog 31 #[.agg #[.int .i64 K, .int .u64 N, .string S, .int .i64 O]] w fun e w' => e = .returned (.tuple #[.agg #[.int .i64 (yK K N), .int .u64 (yN K N), .string (yS K N S), .int .i64 (yO K N O)], .bool (kok K N)]) ∧ Below w.heap.size w w' := by
  have HN : Hid (∀ w, Calls Tryd.prog 33 #[.agg #[.int .i64 K, .int .u64 N, .string S, .int .i64 O]] w fun e w' => e = .returned (.agg #[.int .i64 (nK K), .int .u64 (nN K N), .string (nS K S), .int .i64 (nO K O)]) ∧ Below w.heap.size w w') := fun w => normal_any K N S O w hN
  have HS : Hid (∀ w, Calls Tryd.prog 46 #[.agg #[.int .i64 (nK K), .int .u64 (nN K N), .string (nS K S), .int .i64 (nO K O)], .agg #[.int .i64 (nK K), .int .u64 (nN K N), .string (nS K S), .int .i64 (nO K O)]] w fun e w' => e = .returned (.bool (sameB (nK K) (nN K N) (nS K S) (nO K O) (nK K) (nN K N) (nS K S) (nO K O))) ∧ Below w.heap.size w w') := fun w => same_any _ _ _ _ _ _ _ _ w (nN_u64 hN) (nN_u64 hN)
  have HKi : Hid (∀ w, Calls Tryd.prog 47 #[.int .u64 (nN K N)] w fun e w' => e = .returned (.int .i64 (kindZ (nN K N))) ∧ w' = w) := fun w => kind_any _ w (nN_u64 hN)
  have HAb : Hid (∀ w, Calls Tryd.prog 48 #[.int .u64 (nN K N)] w fun e w' => e = .returned (.int .u64 (absZ (nN K N))) ∧ w' = w) := fun w => abs_any _ w (nN_u64 hN)
  have HY : Hid (kok K N = false → yK K N = 0 ∧ yN K N = 0 ∧ yS K N S = ⟨#[]⟩ ∧ yO K N O = 0) := key_zero S O
  have HY2 : Hid (kok K N = true → yK K N = nK K ∧ yN K N = kN K N ∧ yS K N S = nS K S ∧ yO K N O = nO K O) := key_some S O
  go_enter Tryd.func31, Tryd.ntmps31
  go_upto_region 1 with fail
  go_cut [3] (fun t wx => t = .bool false ∧ wx.cell? ⟨w.heap.size, 0, none⟩ = some (.int .i64 (nK K)) ∧ wx.cell? ⟨w.heap.size, 1, none⟩ = some (.int .u64 (nN K N)) ∧ wx.cell? ⟨w.heap.size, 2, none⟩ = some (.string (nS K S)) ∧ wx.cell? ⟨w.heap.size, 3, none⟩ = some (.int .i64 (nO K O)) ∧
    wx.cell? ⟨w.heap.size + 1, 0, none⟩ = some (.int .i64 0) ∧ wx.cell? ⟨w.heap.size + 1, 1, none⟩ = some (.int .u64 0) ∧ wx.cell? ⟨w.heap.size + 1, 2, none⟩ = some (.string ⟨#[]⟩) ∧ wx.cell? ⟨w.heap.size + 1, 3, none⟩ = some (.int .i64 0) ∧ (∀ i, wx.frozen? ⟨w.heap.size, i, none⟩ = false) ∧ (∀ i, wx.frozen? ⟨w.heap.size + 1, i, none⟩ = false) ∧ w.heap.size + 1 < wx.heap.size ∧ Hid (Below w.heap.size w wx))
  case first =>
    go_wp2_with fail
    refine (HN.out _).mono ?_
    rintro e wn ⟨rfl, hb⟩
    obtain ⟨hc, hf⟩ := bcell hb
    have hsz := hb.size
    simp at hsz
    have a0 : wn.cell? ⟨w.heap.size, 0, none⟩ = some (.int .i64 K) := by rw [hc _ _ (by simp; try omega)]; simp
    have a1 : wn.cell? ⟨w.heap.size, 1, none⟩ = some (.int .u64 N) := by rw [hc _ _ (by simp; try omega)]; simp
    have a2 : wn.cell? ⟨w.heap.size, 2, none⟩ = some (.string S) := by rw [hc _ _ (by simp; try omega)]; simp
    have a3 : wn.cell? ⟨w.heap.size, 3, none⟩ = some (.int .i64 O) := by rw [hc _ _ (by simp; try omega)]; simp
    have b0 : wn.cell? ⟨w.heap.size + 1, 0, none⟩ = some (.int .i64 0) := by rw [hc _ _ (by simp; try omega)]; simp
    have b1 : wn.cell? ⟨w.heap.size + 1, 1, none⟩ = some (.int .u64 0) := by rw [hc _ _ (by simp; try omega)]; simp
    have b2 : wn.cell? ⟨w.heap.size + 1, 2, none⟩ = some (.string ⟨#[]⟩) := by rw [hc _ _ (by simp; try omega)]; simp
    have b3 : wn.cell? ⟨w.heap.size + 1, 3, none⟩ = some (.int .i64 0) := by rw [hc _ _ (by simp; try omega)]; simp
    have f0 : ∀ i, wn.frozen? ⟨w.heap.size, i, none⟩ = false := fun i => by rw [hf _ _ (by simp; try omega)]; simp
    have f1 : ∀ i, wn.frozen? ⟨w.heap.size + 1, i, none⟩ = false := fun i => by rw [hf _ _ (by simp; try omega)]; simp
    have hB : Below w.heap.size w wn := (((Below.refl _ _).alloc (Nat.le_refl _) _).alloc (by simp) _).trans (hb.mono (by simp; omega))
    have q1 := stored4 wn _ w.heap.size (.int .i64 (nK K)) (.int .u64 (nN K N)) (.string (nS K S)) (.int .i64 (nO K O)) _ _ _ _ a0 a1 a2 a3 rfl
    have hB1 := set4 (i0 := 0) (i1 := 1) (i2 := 2) (i3 := 3) hB (Nat.le_refl _) (.int .i64 (nK K)) (.int .u64 (nN K N)) (.string (nS K S)) (.int .i64 (nO K O))
    go_wp2_with fail
    go_meet
    exact ⟨rfl, q1.1.1, q1.1.2.1, q1.1.2.2.1, q1.1.2.2.2, (q1.2 _ _ (by omega)).trans b0, (q1.2 _ _ (by omega)).trans b1, (q1.2 _ _ (by omega)).trans b2, (q1.2 _ _ (by omega)).trans b3, fun i => by simp [f0], fun i => by simp [f1], by simp; omega, hB1⟩
  case rest =>
    obtain ⟨rfl, a0, a1, a2, a3, b0, b1, b2, b3, f0, f1, hz, HB⟩ := hcut
    have hz0 : w.heap.size < wc.heap.size := by omega
    by_cases h0 : nK K = 0
    · have hk : kok K N = false := by unfold kok; rw [h0]; rfl
      go_wp2
      obtain ⟨y1, y2, y3, y4⟩ := HY.out hk
      exact bodyPost_ret (v := .tuple #[.agg #[.int .i64 0, .int .u64 0, .string ⟨#[]⟩, .int .i64 0], .bool false]) (by simp [results, Tryd.results31, go_sem, b0, b1, b2, b3]) rfl ⟨by rw [y1, y2, y3, y4, hk], set4 HB.out (by omega) _ _ _ _⟩
    · have hb0 : (nK K == 0) = false := by simpa using h0
      have hs := same_self S O hN h0
      rw [hs] at HS
      clear hs
      cases hk : kok K N
      · rw [hk] at HS
        go_wp2_with fail
        refine (HS.out _).mono ?_
        rintro e w1 ⟨rfl, hb⟩
        obtain ⟨hc, hf⟩ := bcell hb
        have k0 := (hc _ 0 hz).trans b0
        have k1 := (hc _ 1 hz).trans b1
        have k2 := (hc _ 2 hz).trans b2
        have k3 := (hc _ 3 hz).trans b3
        have kf : ∀ i, w1.frozen? ⟨w.heap.size + 1, i, none⟩ = false := fun i => (hf _ i hz).trans (f1 i)
        have HB1 : Hid (Below w.heap.size w w1) := HB.out.trans (hb.mono (by omega))
        go_wp2
        obtain ⟨y1, y2, y3, y4⟩ := HY.out hk
        exact bodyPost_ret (v := .tuple #[.agg #[.int .i64 0, .int .u64 0, .string ⟨#[]⟩, .int .i64 0], .bool false]) (by simp [results, Tryd.results31, go_sem, k0, k1, k2, k3]) rfl ⟨by rw [y1, y2, y3, y4, hk], set4 HB1.out (by omega) _ _ _ _⟩
      · rw [hk] at HS
        go_wp2_with fail
        refine (HS.out _).mono ?_
        rintro e w1 ⟨rfl, hb⟩
        obtain ⟨hc, hf⟩ := bcell hb
        have k0 := (hc _ 0 hz).trans b0
        have k1 := (hc _ 1 hz).trans b1
        have k2 := (hc _ 2 hz).trans b2
        have k3 := (hc _ 3 hz).trans b3
        have kf : ∀ i, w1.frozen? ⟨w.heap.size + 1, i, none⟩ = false := fun i => (hf _ i hz).trans (f1 i)
        have j0 := (hc _ 0 hz0).trans a0
        have j1 := (hc _ 1 hz0).trans a1
        have j2 := (hc _ 2 hz0).trans a2
        have j3 := (hc _ 3 hz0).trans a3
        have jf : ∀ i, w1.frozen? ⟨w.heap.size, i, none⟩ = false := fun i => (hf _ i hz0).trans (f0 i)
        have HB1 : Hid (Below w.heap.size w w1) := HB.out.trans (hb.mono (by omega))
        have HYY : Hid (yK K N = nK K ∧ yN K N = kN K N ∧ yS K N S = nS K S ∧ yO K N O = nO K O) := HY2.out hk
        have HK : Hid (kok K N = true) := hk
        clear hb hc hf a0 a1 a2 a3 b0 b1 b2 b3 f0 f1 hz hz0 HB HN HS HY HY2 hk
        by_cases h3 : nK K = 3
        · have hK3 : K = 3 := (nK_3 K).1 h3
          have hkz := kind_zero (nN K N)
          by_cases hm : mag (nN K N) = 0
          · have HM : Hid (kN K N = 0) := if_pos hm
            have HA : Hid (absZ (nN K N) = 0) := by have := kN_abs (N := N); rw [hK3] at hm ⊢; exact this hm
            rw [decide_eq_true hm] at hkz
            clear hm hK3
            go_wp2_with fail
            refine (HKi.out _).mono ?_
            rintro e w' ⟨rfl, rfl⟩
            go_wp2_with fail
            refine (HAb.out _).mono ?_
            rintro e w' ⟨rfl, rfl⟩
            rw [HA.out]
            go_wp2
            obtain ⟨y1, y2, y3, y4⟩ := HYY.out
            exact bodyPost_ret (v := .tuple #[.agg #[.int .i64 3, .int .u64 0, .string (nS K S), .int .i64 (nO K O)], .bool true]) (by simp [results, Tryd.results31, go_sem, k0, k1, k2, k3]) rfl ⟨by rw [y1, h3, y2, y3, y4, HM.out, HK.out], set4 (HB1.out.setCell (p := ⟨w.heap.size, 1, none⟩) (Nat.le_refl _) _) (by omega) _ _ _ _⟩
          · have HM : Hid (kN K N = nN K N) := if_neg hm
            rw [decide_eq_false hm] at hkz
            clear hm hK3
            go_wp2_with fail
            refine (HKi.out _).mono ?_
            rintro e w' ⟨rfl, rfl⟩
            go_wp2
            obtain ⟨y1, y2, y3, y4⟩ := HYY.out
            exact bodyPost_ret (v := .tuple #[.agg #[.int .i64 3, .int .u64 (nN K N), .string (nS K S), .int .i64 (nO K O)], .bool true]) (by simp [results, Tryd.results31, go_sem, k0, k1, k2, k3]) rfl ⟨by rw [y1, h3, y2, y3, y4, HM.out, HK.out], set4 HB1.out (by omega) _ _ _ _⟩
        · have h3b : (nK K == 3) = false := by simpa using h3
          have HM : Hid (kN K N = nN K N) := by
            have := kN_plain N (fun e : K = 3 => h3 ((nK_3 K).2 e))
            rw [this.1, this.2]; exact rfl
          go_wp2
          obtain ⟨y1, y2, y3, y4⟩ := HYY.out
          exact bodyPost_ret (v := .tuple #[.agg #[.int .i64 (nK K), .int .u64 (nN K N), .string (nS K S), .int .i64 (nO K O)], .bool true]) (by simp [results, Tryd.results31, go_sem, k0, k1, k2, k3]) rfl ⟨by rw [y1, y2, y3, y4, HM.out, HK.out], set4 HB1.out (by omega) _ _ _ _⟩

end Go.Proofs.YtjkedocppbcncaaDoor
