/-
  HpBit, HpCtz, HpGap, HpTable, HpLay, HpOrder
-/
import Derived.Lib.TrailingZeros
import Derived.Laws.Bits64
import Derived.Test.YtjkedocppbcncaaDoorZ09

/-
  Layer 9: which of the keys 1, 2, 3, .. a key is: bit.
-/
namespace Go.Proofs.YtjkedocppbcncaaDoor
set_option maxRecDepth 100000
open Go.RowKit Dg Flo

/-- Whether a key has a bit among m words, and which. -/
def bitB (m : Nat) (K N : Int) : Bool := decide (K = 3 ∧ toB N = true ∧ 1 ≤ toI N ∧ toI N ≤ (m : Int) * 64)
def bitN (m : Nat) (K N : Int) : Nat := if bitB m K N then (toI N - 1).toNat else 0

set_option maxHeartbeats 2000000 in
theorem hbit_any (tb m cap : Nat) (a : Option Addr) (K N : Int) (S : ByteArray) (O : Int) (w : World) (hN : U64 N) (htb : tb < w.heap.size) (hc : w.cell? ⟨tb, 8, none⟩ = some (.slice a m cap)) (hm : m ≤ 1099511627776) :
    Calls Tryd.prog 76 #[.pointer (some ⟨tb, 0, none⟩), .agg #[.int .i64 K, .int .u64 N, .string S, .int .i64 O]] w fun e w' => e = .returned (.tuple #[.int .i64 (bitN m K N : Nat), .bool (bitB m K N)]) ∧ Below w.heap.size w w' := by
  have HB : Hid (Below w.heap.size w (w.alloc (.cells #[.int .i64 K, .int .u64 N, .string S, .int .i64 O] 35))) := (Below.refl _ _).alloc (Nat.le_refl _) _
  have HT : Hid (∀ w, Calls Tryd.prog 82 #[.int .u64 N] w fun e w' => e = .returned (.tuple #[.int .i64 (toI N), .bool (toB N)]) ∧ Below w.heap.size w w') := fun w => toInt_any N w hN
  by_cases k3 : K = 3
  · subst k3
    have hcase : toB N = false ∨ (toB N = true ∧ toI N < 1) ∨ (toB N = true ∧ 1 ≤ toI N ∧ toI N > (m : Int) * 64) ∨ (toB N = true ∧ 1 ≤ toI N ∧ toI N ≤ (m : Int) * 64) := by
      cases toB N <;> simp <;> omega
    rcases hcase with c | ⟨c, d⟩ | ⟨c, d, d2⟩ | ⟨c, d, d2⟩
    · have b0 : bitB m 3 N = false := by unfold bitB; exact decide_eq_false (by rintro ⟨_, h, _⟩; rw [c] at h; cases h)
      have n0 : bitN m 3 N = 0 := by unfold bitN; rw [b0]; rfl
      rw [b0, n0]
      rw [c] at HT
      generalize toI N = z at *
      clear b0 n0 c
      go_enter Tryd.func76, Tryd.ntmps76
      go_wp2_with fail
      refine (HT.out _).mono ?_
      rintro e w1 ⟨rfl, hb⟩
      have HB1 : Hid (Below w.heap.size w w1) := HB.out.trans (hb.mono (by simp))
      have hc1 : w1.cell? ⟨tb, 8, none⟩ = some (.slice a m cap) := (HB1.out.cell htb).trans hc
      clear hb HB HT
      go_wp2
      go_ret2
      exact ⟨rfl, HB1.out⟩
    · have b0 : bitB m 3 N = false := by unfold bitB; exact decide_eq_false (by rintro ⟨_, _, h, _⟩; omega)
      have n0 : bitN m 3 N = 0 := by unfold bitN; rw [b0]; rfl
      rw [b0, n0]
      rw [c] at HT
      generalize toI N = z at *
      clear b0 n0 c
      go_enter Tryd.func76, Tryd.ntmps76
      go_wp2_with fail
      refine (HT.out _).mono ?_
      rintro e w1 ⟨rfl, hb⟩
      have HB1 : Hid (Below w.heap.size w w1) := HB.out.trans (hb.mono (by simp))
      have hc1 : w1.cell? ⟨tb, 8, none⟩ = some (.slice a m cap) := (HB1.out.cell htb).trans hc
      clear hb HB HT
      go_wp2
      go_ret2
      exact ⟨rfl, HB1.out⟩
    · have b0 : bitB m 3 N = false := by unfold bitB; exact decide_eq_false (by rintro ⟨_, _, _, h⟩; omega)
      have n0 : bitN m 3 N = 0 := by unfold bitN; rw [b0]; rfl
      rw [b0, n0]
      rw [c] at HT
      generalize toI N = z at *
      clear b0 n0 c
      have d3 : ¬ z < 1 := by omega
      go_enter Tryd.func76, Tryd.ntmps76
      go_wp2_with fail
      refine (HT.out _).mono ?_
      rintro e w1 ⟨rfl, hb⟩
      have HB1 : Hid (Below w.heap.size w w1) := HB.out.trans (hb.mono (by simp))
      have hc1 : w1.cell? ⟨tb, 8, none⟩ = some (.slice a m cap) := (HB1.out.cell htb).trans hc
      clear hb HB HT
      go_wp2
      go_ret2
      exact ⟨rfl, HB1.out⟩
    · have b0 : bitB m 3 N = true := by unfold bitB; exact decide_eq_true ⟨rfl, c, d, d2⟩
      have n0 : ((bitN m 3 N : Nat) : Int) = toI N - 1 := by unfold bitN; rw [b0]; simp; omega
      rw [b0, n0]
      rw [c] at HT
      generalize toI N = z at *
      clear b0 n0 c
      have d3 : ¬ z < 1 := by omega
      have d4 : ¬ z > (m : Int) * 64 := by omega
      go_enter Tryd.func76, Tryd.ntmps76
      go_wp2_with fail
      refine (HT.out _).mono ?_
      rintro e w1 ⟨rfl, hb⟩
      have HB1 : Hid (Below w.heap.size w w1) := HB.out.trans (hb.mono (by simp))
      have hc1 : w1.cell? ⟨tb, 8, none⟩ = some (.slice a m cap) := (HB1.out.cell htb).trans hc
      clear hb HB HT
      go_wp2
      go_ret2
      exact ⟨rfl, HB1.out⟩
  · have b0 : bitB m K N = false := by unfold bitB; exact decide_eq_false (by rintro ⟨h, _⟩; exact k3 h)
    have n0 : bitN m K N = 0 := by unfold bitN; rw [b0]; rfl
    rw [b0, n0]
    clear b0 n0 HT
    go_enter Tryd.func76, Tryd.ntmps76
    go_wp2
    go_ret2
    exact ⟨rfl, HB.out⟩
end Go.Proofs.YtjkedocppbcncaaDoor

/-
  Layer 9: the first bit that is set: the library's TrailingZeros64.
-/
namespace Go.Proofs.YtjkedocppbcncaaDoor
set_option maxRecDepth 100000
open Go.RowKit

/-- The library's table in its variable. -/
def Db (w : World) : Prop := ∀ j, j < 64 → w.cell? ⟨1, j, none⟩ = some (.int .u8 (Lib.deBruijn64tab.getD j 0 : Nat))

theorem ctz_key (x a : Nat) (hx : x < 18446744073709551616) (hx0 : x ≠ 0) (hlow : x &&& (18446744073709551616 - x) = a) :
    IntKind.u64.wrap (bits BinOp.and IntKind.u64 (x : Int) (IntKind.u64.wrap (-(x : Int))) * 285870213051353865) / 288230376151711744 = ((a * 285870213051353865 % 18446744073709551616 / 288230376151711744 : Nat) : Int) := by
  have e1 : IntKind.u64.wrap (-(x : Int)) = ((18446744073709551616 - x : Nat) : Int) := by rw [IntKind.wrap_u64]; omega
  rw [e1, bits_and_u64_nat x _ hx (by omega), hlow, IntKind.wrap_u64]
  omega

set_option maxHeartbeats 1000000 in
theorem ctz_core (x k idx : Nat) (w : World) (h0 : ((x : Int) == 0) = false)
    (key : IntKind.u64.wrap (bits BinOp.and IntKind.u64 (x : Int) (IntKind.u64.wrap (-(x : Int))) * 285870213051353865) / 288230376151711744 = (idx : Int))
    (hi : idx < 64) (hk : k < 64) (hcell : w.cell? ⟨1, idx, none⟩ = some (.int .u8 (k : Nat))) :
    Calls Tryd.prog 86 #[.int .u64 (x : Int)] w fun e w' => e = .returned (.int .i64 (k : Nat)) ∧ w' = w := by
  go_enter Tryd.func86, Tryd.ntmps86
  go_wp2_with (simp only [key])
  go_ret
  exact ⟨rfl, rfl⟩
set_option maxHeartbeats 1000000 in
theorem ctz_zero (w : World) : Calls Tryd.prog 86 #[.int .u64 0] w fun e w' => e = .returned (.int .i64 64) ∧ w' = w := by
  go_enter Tryd.func86, Tryd.ntmps86
  go_wp2
  go_ret
  exact ⟨rfl, rfl⟩
theorem ctz_any (x : Nat) (hx : x < 18446744073709551616) (w : World) (hT : Db w) :
    Calls Tryd.prog 86 #[.int .u64 (x : Int)] w fun e w' => e = .returned (.int .i64 (Lib.ctz 64 x : Nat)) ∧ w' = w := by
  by_cases hx0 : x = 0
  · subst hx0
    exact ctz_zero w
  · obtain ⟨hlow, hk⟩ := Lib.lowest_bit 64 x hx0 hx
    obtain ⟨hi, htab⟩ := Lib.deBruijn64_at _ hk
    have hcell := hT _ hi
    rw [htab] at hcell
    exact ctz_core x _ _ w (by simp; omega) (ctz_key x _ hx hx0 hlow) hi hk hcell
end Go.Proofs.YtjkedocppbcncaaDoor

/-
  Layer 9: the first bit that is not set: gap.
-/
namespace Go.Proofs.YtjkedocppbcncaaDoor
set_option maxRecDepth 100000
open Go.RowKit

/-- The first of the words p, p + 1, .. (f of them) that is not full. -/
def gapF (W : Nat → Nat) : Nat → Nat → Nat
  | 0, p => p
  | f + 1, p => if W p = 18446744073709551615 then gapF W f (p + 1) else p
theorem gapF_step (W : Nat → Nat) {m p : Nat} (h : p < m) (hw : W p = 18446744073709551615) : gapF W (m - p) p = gapF W (m - (p + 1)) (p + 1) := by
  rw [show m - p = (m - (p + 1)) + 1 from by omega, gapF, if_pos hw]
theorem gapF_stop (W : Nat → Nat) {m p : Nat} (h : p < m) (hw : ¬ W p = 18446744073709551615) : gapF W (m - p) p = p := by
  rw [show m - p = (m - (p + 1)) + 1 from by omega, gapF, if_neg hw]
theorem gapF_end (W : Nat → Nat) (m : Nat) : gapF W (m - m) m = m := by rw [Nat.sub_self]; rfl
/-- Which bit gap tells. -/
def gapN (W : Nat → Nat) (m s : Nat) : Nat := let p := gapF W (m - s / 64) (s / 64)
  if p = m then m * 64 else p * 64 + Lib.ctz 64 (18446744073709551615 - W p)
theorem gapN_end {W : Nat → Nat} {m s : Nat} (h : gapF W (m - s / 64) (s / 64) = m) : gapN W m s = m * 64 := by unfold gapN; simp only [h, if_pos]
theorem gapN_at {W : Nat → Nat} {m s p : Nat} (h : gapF W (m - s / 64) (s / 64) = p) (hp : p ≠ m) : gapN W m s = p * 64 + Lib.ctz 64 (18446744073709551615 - W p) := by unfold gapN; simp only [h, if_neg hp]

theorem not_u64 (x : Nat) (hx : x < 18446744073709551616) : bits .xor .u64 IntKind.u64.max (x : Int) = ((18446744073709551615 - x : Nat) : Int) := by
  rw [show IntKind.u64.max = ((18446744073709551615 : Nat) : Int) from by decide, bits_xor_u64_nat _ x (by decide) hx]
  congr 1
  have h := BitVec.toNat_not (x := BitVec.ofNat 64 x)
  rw [BitVec.not_def, BitVec.toNat_xor, BitVec.toNat_allOnes, BitVec.toNat_ofNat, Nat.mod_eq_of_lt (by omega)] at h
  exact h

set_option maxHeartbeats 2000000 in
theorem gap_any (tb c m s : Nat) (W : Nat → Nat) (w : World) (h8 : w.cell? ⟨tb, 8, none⟩ = some (.slice (some ⟨c, 0, none⟩) m m)) (h9 : w.cell? ⟨tb, 9, none⟩ = some (.int .i64 (s : Int))) (hm : m ≤ 1099511627776) (hs : s ≤ m * 64)
    (hW : ∀ i, i < m → W i < 18446744073709551616 ∧ w.cell? ⟨c, i, none⟩ = some (.int .u64 (W i : Int))) (hT : Db w) :
    Calls Tryd.prog 83 #[.pointer (some ⟨tb, 0, none⟩)] w fun e w' => e = .returned (.int .i64 (gapN W m s : Nat)) ∧ w' = w := by
  have HW : Hid (∀ i, i < m → W i < 18446744073709551616 ∧ w.cell? ⟨c, i, none⟩ = some (.int .u64 (W i : Int))) := hW
  have HC : Hid (∀ x : Nat, x < 18446744073709551616 → Calls Tryd.prog 86 #[.int .u64 (x : Int)] w fun e w' => e = .returned (.int .i64 (Lib.ctz 64 x : Nat)) ∧ w' = w) := fun x hx => ctz_any x hx w hT
  clear hW hT
  go_enter Tryd.func83, Tryd.ntmps83
  go_wp2_with fail
  go_loop [3] (fun t3 => ∃ p : Nat, p ≤ m ∧ t3 = .int .i64 (p : Int) ∧ Hid (gapF W (m - p) p = gapF W (m - s / 64) (s / 64))) (fun t3 => m - (intOf t3).toNat)
  case atStart => exact ⟨s / 64, by omega, by simp, rfl⟩
  case round =>
    obtain ⟨p, hp, rfl, HI⟩ := hrel
    by_cases hpm : p < m
    · obtain ⟨w1, w2⟩ := HW.out p hpm
      by_cases hf : W p = 18446744073709551615
      · have HS : Hid (gapF W (m - p) p = gapF W (m - (p + 1)) (p + 1)) := gapF_step W hpm hf
        rw [hf] at w2
        go_wp2_with fail
        exact ⟨⟨p + 1, by omega, rfl, HS.out.symm.trans HI.out⟩, by simp [intOf]; omega⟩
      · have hf' : ¬ (W p : Int) = 18446744073709551615 := by omega
        have HS : Hid (gapN W m s = p * 64 + Lib.ctz 64 (18446744073709551615 - W p)) := gapN_at (HI.out.symm.trans (gapF_stop W hpm hf)) (by omega)
        go_wp2_with fail
        rw [not_u64 _ w1]
        have hl : Lib.ctz 64 (18446744073709551615 - W p) < 64 := (Lib.lowest_bit 64 (18446744073709551615 - W p) (by omega) (by omega)).2
        refine (HC.out _ (by omega)).mono ?_
        rintro e w' ⟨rfl, rfl⟩
        generalize Lib.ctz 64 (18446744073709551615 - W p) = z at *
        clear w2 hf hf'
        go_wp2_with fail
        go_ret
        exact ⟨by rw [HS.out]; simp, rfl⟩
    · have hpe : p = m := by omega
      subst hpe
      have HS : Hid (gapN W p s = p * 64) := gapN_end (HI.out.symm.trans (gapF_end W p))
      go_wp2_with fail
      go_ret
      exact ⟨by rw [HS.out]; simp, rfl⟩
end Go.Proofs.YtjkedocppbcncaaDoor

/-
  Layer 9: a table in memory: its entries in their order, its buckets, and what a search finds in it.
-/
namespace Go.Proofs.YtjkedocppbcncaaDoor
set_option maxRecDepth 100000
open Go.RowKit

/-- The key of an entry. -/
def En.key (e : En) : Int × Int × ByteArray × Int := (e.K, e.N, e.S, e.O)
/-- The hash of a key, as a natural number. -/
def hN (K N : Int) (S : ByteArray) (O : Int) : Nat := (hZ K N S O).toNat
theorem hN_lt (K N : Int) (S : ByteArray) (O : Int) : hN K N S O < 18446744073709551616 := by
  have := mixZ_in (hw S (mixZ (mixZ (mixZ (mixZ 0 (IntKind.u64.wrap K)) N) (IntKind.u64.wrap O)) (S.size : Nat)) S.size).1 (hw S (mixZ (mixZ (mixZ (mixZ 0 (IntKind.u64.wrap K)) N) (IntKind.u64.wrap O)) (S.size : Nat)) S.size).2
  unfold hN hZ
  simp only
  omega
theorem hN_eq (K N : Int) (S : ByteArray) (O : Int) : ((hN K N S O : Nat) : Int) = hZ K N S O := by
  have := mixZ_in (hw S (mixZ (mixZ (mixZ (mixZ 0 (IntKind.u64.wrap K)) N) (IntKind.u64.wrap O)) (S.size : Nat)) S.size).1 (hw S (mixZ (mixZ (mixZ (mixZ 0 (IntKind.u64.wrap K)) N) (IntKind.u64.wrap O)) (S.size : Nat)) S.size).2
  unfold hN hZ
  simp only
  omega

/-- What a search tells: nothing is there of the key, or the first that is. -/
theorem seek_cases (K N : Int) (S : ByteArray) (O : Int) (H : Nat) : ∀ l : List En, (seek K N S O H l = [] ∧ ∀ e ∈ l, isE K N S O H e = false) ∨ ∃ e r, seek K N S O H l = e :: r ∧ e ∈ l ∧ isE K N S O H e = true
  | [] => .inl ⟨rfl, fun e h => absurd h (by simp)⟩
  | x :: l => by
    by_cases c : isE K N S O H x = true
    · exact .inr ⟨x, l, by rw [seek, if_pos c], List.mem_cons_self, c⟩
    · rcases seek_cases K N S O H l with ⟨a, b⟩ | ⟨e, r, a, b, d⟩
      · refine .inl ⟨by rw [seek, if_neg c, a], fun e he => ?_⟩
        rcases List.mem_cons.1 he with rfl | he
        · simpa using c
        · exact b e he
      · exact .inr ⟨e, r, by rw [seek, if_neg c, a], List.mem_cons_of_mem _ b, d⟩

/-- The entry of a key in a table's list. -/
def ofKey (K N : Int) (S : ByteArray) (O : Int) (es : List En) : Option En := es.find? fun e => decide (e.K = K ∧ e.N = N ∧ e.S = S ∧ e.O = O)

/-- The entries es, each with its own key and its key's hash, lie in the n buckets of the block g by the chains cs. -/
structure Bk (w : World) (g n : Nat) (cs : Nat → List En) (es : List En) : Prop where
  pos : 0 < n
  few : n ≤ 1099511627776
  lt : g < w.heap.size
  head : ∀ j, j < n → w.cell? ⟨g, j, none⟩ = some (hd (cs j))
  chain : ∀ j, j < n → Lk w 9 (cs j)
  mem : ∀ j, j < n → ∀ e, e ∈ cs j ↔ e ∈ es ∧ bk e.H n = j
  lies : ∀ e ∈ es, EnC w e ∧ e.b < w.heap.size
  hash : ∀ e ∈ es, e.H = hN e.K e.N e.S e.O
  own : ∀ e ∈ es, ∀ f ∈ es, e.K = f.K → e.N = f.N → e.S = f.S → e.O = f.O → e = f
  once : ∀ j, j < n → (cs j).Nodup
  block : ∀ e ∈ es, ∀ f ∈ es, e.b = f.b → e = f
  apart : ∀ e ∈ es, e.b ≠ g

theorem Bk.seek {w : World} {g n : Nat} {cs : Nat → List En} {es : List En} (h : Bk w g n cs es) (K N : Int) (S : ByteArray) (O : Int) :
    (ofKey K N S O es = none ∧ seek K N S O (hN K N S O) (cs (bk (hN K N S O) n)) = []) ∨ ∃ e r, ofKey K N S O es = some e ∧ e ∈ es ∧ seek K N S O (hN K N S O) (cs (bk (hN K N S O) n)) = e :: r := by
  have hj := bk_lt (hN K N S O) h.pos
  rcases seek_cases K N S O (hN K N S O) (cs (bk (hN K N S O) n)) with ⟨a, b⟩ | ⟨e, r, a, b, c⟩
  · refine .inl ⟨?_, a⟩
    refine List.find?_eq_none.2 fun e he => ?_
    intro c
    have c := of_decide_eq_true c
    have hh := h.hash e he
    rw [c.1, c.2.1, c.2.2.1, c.2.2.2] at hh
    have := b e ((h.mem _ hj e).2 ⟨he, by rw [hh]⟩)
    unfold isE at this
    exact of_decide_eq_false this ⟨hh, c⟩
  · refine .inr ⟨e, r, ?_, ((h.mem _ hj e).1 b).1, a⟩
    have he := ((h.mem _ hj e).1 b).1
    unfold isE at c
    have c := of_decide_eq_true c
    cases hf : ofKey K N S O es with
    | none =>
      have := List.find?_eq_none.1 hf e he
      exact absurd (decide_eq_true c.2) this
    | some f =>
      have f1 := List.find?_some hf
      have f2 := List.mem_of_find?_eq_some hf
      have f1 := of_decide_eq_true f1
      rw [h.own e he f f2 (c.2.1.trans f1.1.symm) (c.2.2.1.trans f1.2.1.symm) (c.2.2.2.1.trans f1.2.2.1.symm) (c.2.2.2.2.trans f1.2.2.2.symm)]
end Go.Proofs.YtjkedocppbcncaaDoor

/-
  Layer 9: a key laid into its bucket, a key taken out of it: what becomes of the chains.
-/
namespace Go.Proofs.YtjkedocppbcncaaDoor
set_option maxRecDepth 100000
open Go.RowKit

/-- All cells that there were but those of A are as they were, and no block is gone. -/
def Off (A : List (Nat × Nat)) (w w' : World) : Prop := (∀ k o v, (k, o) ∉ A → w.cell? ⟨k, o, none⟩ = some v → w'.cell? ⟨k, o, none⟩ = some v) ∧ w.heap.size ≤ w'.heap.size

theorem EnC.off {A : List (Nat × Nat)} {w w' : World} {e : En} (h : EnC w e) (ho : Off A w w') (hA : ∀ o, o ≤ 8 → (e.b, o) ∉ A) : EnC w' e := by
  obtain ⟨h0, h1, h2, h3, h4, h5, h6, h7, h8⟩ := h
  exact ⟨ho.1 _ _ _ (hA 0 (by omega)) h0, ho.1 _ _ _ (hA 1 (by omega)) h1, ho.1 _ _ _ (hA 2 (by omega)) h2, ho.1 _ _ _ (hA 3 (by omega)) h3, ho.1 _ _ _ (hA 4 (by omega)) h4, ho.1 _ _ _ (hA 5 (by omega)) h5, ho.1 _ _ _ (hA 6 (by omega)) h6, ho.1 _ _ _ (hA 7 (by omega)) h7, ho.1 _ _ _ (hA 8 (by omega)) h8⟩
theorem Lk.off {A : List (Nat × Nat)} {w w' : World} {o : Nat} (ho : Off A w w') : ∀ {l : List En}, Lk w o l → (∀ e ∈ l, (e.b, o) ∉ A) → Lk w' o l
  | [], _, _ => trivial
  | e :: _, h, hA => ⟨ho.1 _ _ _ (hA e List.mem_cons_self) h.1, Lk.off ho h.2 fun x hx => hA x (List.mem_cons_of_mem _ hx)⟩

/-- The chains with an entry laid ahead of the others of its bucket. -/
def laidC (cs : Nat → List En) (j : Nat) (e : En) : Nat → List En := fun i => if i = j then e :: cs j else cs i

theorem Bk.lay {w w' : World} {g n : Nat} {cs : Nat → List En} {es es' : List En} {e : En} (h : Bk w g n cs es) (hes : ∀ x, x ∈ es' ↔ x = e ∨ x ∈ es)
    (hl : EnC w e ∧ e.b < w.heap.size) (hh : e.H = hN e.K e.N e.S e.O) (hnew : ∀ f ∈ es, ¬ (e.K = f.K ∧ e.N = f.N ∧ e.S = f.S ∧ e.O = f.O)) (hb : ∀ f ∈ es, f.b ≠ e.b) (hg : e.b ≠ g)
    (ho : Off [(e.b, 9), (g, bk e.H n)] w w') (h9 : w'.cell? ⟨e.b, 9, none⟩ = some (hd (cs (bk e.H n)))) (hj : w'.cell? ⟨g, bk e.H n, none⟩ = some (.pointer (some ⟨e.b, 0, none⟩))) :
    Bk w' g n (laidC cs (bk e.H n) e) es' := by
  have hs := ho.2
  have hgs := h.apart
  have hoff : ∀ f ∈ es, ∀ o, (f.b, o) ∉ [(e.b, 9), (g, bk e.H n)] := by
    intro f hf o hm
    simp only [List.mem_cons, Prod.mk.injEq, List.not_mem_nil, or_false] at hm
    rcases hm with ⟨a, _⟩ | ⟨a, _⟩
    · exact hb f hf a
    · exact hgs f hf a
  have heoff : ∀ o, o ≤ 8 → (e.b, o) ∉ [(e.b, 9), (g, bk e.H n)] := by
    intro o ho' hm
    simp only [List.mem_cons, Prod.mk.injEq, List.not_mem_nil, or_false] at hm
    rcases hm with ⟨_, a⟩ | ⟨a, _⟩
    · omega
    · exact hg a
  have hin : ∀ j, j < n → ∀ x ∈ cs j, x ∈ es := fun j hj x hx => ((h.mem j hj x).1 hx).1
  refine ⟨h.pos, h.few, by have := h.lt; omega, fun i hi => ?_, fun i hi => ?_, fun i hi x => ?_, fun x hx => ?_, fun x hx => ?_, fun x hx y hy => ?_, fun i hi => ?_, fun x hx y hy k => ?_, fun x hx => ?_⟩
  · unfold laidC
    by_cases c : i = bk e.H n
    · rw [if_pos c, c, hj]; rfl
    · rw [if_neg c]
      exact ho.1 _ _ _ (by simp only [List.mem_cons, Prod.mk.injEq, List.not_mem_nil, or_false]; rintro (⟨a, _⟩ | ⟨_, a⟩); exact hg a.symm; exact c a) (h.head i hi)
  · unfold laidC
    by_cases c : i = bk e.H n
    · rw [if_pos c]
      subst c
      exact ⟨h9, (h.chain _ hi).off ho fun x hx => hoff x (hin _ hi x hx) 9⟩
    · rw [if_neg c]
      exact (h.chain i hi).off ho fun x hx => hoff x (hin i hi x hx) 9
  · unfold laidC
    by_cases c : i = bk e.H n
    · rw [if_pos c, List.mem_cons, hes]
      subst c
      rw [h.mem _ hi]
      constructor
      · rintro (rfl | ⟨a, b⟩)
        · exact ⟨.inl rfl, rfl⟩
        · exact ⟨.inr a, b⟩
      · rintro ⟨rfl | a, b⟩
        · exact .inl rfl
        · exact .inr ⟨a, b⟩
    · rw [if_neg c, hes, h.mem i hi]
      constructor
      · rintro ⟨a, b⟩; exact ⟨.inr a, b⟩
      · rintro ⟨rfl | a, b⟩
        · exact absurd b.symm c
        · exact ⟨a, b⟩
  · rcases (hes x).1 hx with rfl | hx
    · exact ⟨hl.1.off ho heoff, by have := hl.2; omega⟩
    · exact ⟨(h.lies x hx).1.off ho fun o _ => hoff x hx o, by have := (h.lies x hx).2; omega⟩
  · rcases (hes x).1 hx with rfl | hx
    · exact hh
    · exact h.hash x hx
  · intro a b c d
    rcases (hes x).1 hx with rfl | hx
    · rcases (hes y).1 hy with rfl | hy
      · rfl
      · exact absurd ⟨a, b, c, d⟩ (hnew y hy)
    · rcases (hes y).1 hy with rfl | hy
      · exact absurd ⟨a.symm, b.symm, c.symm, d.symm⟩ (hnew x hx)
      · exact h.own x hx y hy a b c d
  · unfold laidC
    by_cases c : i = bk e.H n
    · rw [if_pos c]
      subst c
      exact List.nodup_cons.2 ⟨fun hm => hb e (hin _ hi e hm) rfl, h.once _ hi⟩
    · rw [if_neg c]; exact h.once i hi
  · rcases (hes x).1 hx with rfl | hx
    · rcases (hes y).1 hy with rfl | hy
      · rfl
      · exact absurd k.symm (hb y hy)
    · rcases (hes y).1 hy with rfl | hy
      · exact absurd k (hb x hx)
      · exact h.block x hx y hy k
  · rcases (hes x).1 hx with rfl | hx
    · exact hg
    · exact h.apart x hx

theorem hd_append (zs : List En) (x : En) (r r' : List En) : hd (zs ++ x :: r) = hd (zs ++ x :: r') := by cases zs <;> rfl
theorem Lk.relink {w w' : World} {o : Nat} {x : En} {r r' : List En} (ho : Off [(x.b, o)] w w') (hx : w'.cell? ⟨x.b, o, none⟩ = some (hd r')) (hr : Lk w' o r') : ∀ {zs : List En}, Lk w o (zs ++ x :: r) → (∀ z ∈ zs, z.b ≠ x.b) → Lk w' o (zs ++ x :: r')
  | [], _, _ => ⟨hx, hr⟩
  | z :: zs, h, hz => by
    refine ⟨?_, Lk.relink ho hx hr h.2 fun y hy => hz y (List.mem_cons_of_mem _ hy)⟩
    exact ho.1 _ _ _ (by simp only [List.mem_cons, Prod.mk.injEq, List.not_mem_nil, or_false]; rintro ⟨a, _⟩; exact hz z List.mem_cons_self a) (h.1.trans (congrArg some (hd_append zs x r r')))
theorem Lk.tail {w : World} {o : Nat} : ∀ {zs r : List En}, Lk w o (zs ++ r) → Lk w o r
  | [], _, h => h
  | _ :: _, _, h => Lk.tail h.2

/-- The chains without an entry. -/
def cutC (cs : Nat → List En) (j : Nat) (l : List En) : Nat → List En := fun i => if i = j then l else cs i
/-- The cell that leads to what stands behind xs in the chain of the bucket j. -/
def linkOf (g j : Nat) (xs : List En) : Nat × Nat := match xs.getLast? with
  | none => (g, j)
  | some x => (x.b, 9)

theorem Bk.cut {w w' : World} {g n : Nat} {cs : Nat → List En} {es es' : List En} {e : En} {xs ys : List En} (h : Bk w g n cs es) (he : e ∈ es) (hes : ∀ x, x ∈ es' ↔ x ∈ es ∧ x ≠ e)
    (hc : cs (bk e.H n) = xs ++ e :: ys) (ho : Off [linkOf g (bk e.H n) xs] w w') (hl : w'.cell? ⟨(linkOf g (bk e.H n) xs).1, (linkOf g (bk e.H n) xs).2, none⟩ = some (hd ys)) :
    Bk w' g n (cutC cs (bk e.H n) (xs ++ ys)) es' := by
  have hs := ho.2
  have hj := bk_lt e.H h.pos
  have hin : ∀ j, j < n → ∀ x ∈ cs j, x ∈ es := fun j hj x hx => ((h.mem j hj x).1 hx).1
  have hxs : ∀ x ∈ xs, x ∈ es := fun x hx => hin _ hj x (by rw [hc]; exact List.mem_append_left _ hx)
  have hnd := h.once _ hj
  rw [hc] at hnd
  have hlk := h.chain _ hj
  rw [hc] at hlk
  have hoff : ∀ f ∈ es, ∀ o, o ≤ 8 → (f.b, o) ∉ [linkOf g (bk e.H n) xs] := by
    intro f hf o ho' hm
    rw [List.mem_singleton] at hm
    unfold linkOf at hm
    split at hm
    · injection hm with a _; exact h.apart f hf a
    · injection hm with _ a; omega
  have hoff9 : ∀ f ∈ es, f ∉ xs → ∀ o, (f.b, o) ∉ [linkOf g (bk e.H n) xs] := by
    intro f hf hn o hm
    rw [List.mem_singleton] at hm
    unfold linkOf at hm
    split at hm
    · injection hm with a _; exact h.apart f hf a
    · rename_i x hx
      injection hm with a _
      have hxx := List.mem_of_getLast? hx
      exact hn (by rw [h.block f hf x (hxs x hxx) a]; exact hxx)
  have hys : ∀ y ∈ ys, y ∈ es ∧ y ∉ xs := by
    intro y hy
    refine ⟨hin _ hj y (by rw [hc]; exact List.mem_append_right _ (List.mem_cons_of_mem _ hy)), fun hx => ?_⟩
    exact (List.nodup_append.1 hnd).2.2 y hx y (List.mem_cons_of_mem _ hy) rfl
  have hlys : Lk w' 9 ys := (Lk.tail (zs := xs ++ [e]) (by simpa using hlk)).off ho fun y hy => hoff9 y (hys y hy).1 (hys y hy).2 9
  have hex : e ∉ xs := fun hx => (List.nodup_append.1 hnd).2.2 e hx e List.mem_cons_self rfl
  have hey : e ∉ ys := (List.nodup_cons.1 (List.nodup_append.1 hnd).2.1).1
  refine ⟨h.pos, h.few, by have := h.lt; omega, fun i hi => ?_, fun i hi => ?_, fun i hi x => ?_, fun x hx => ?_, fun x hx => ?_, fun x hx y hy => ?_, fun i hi => ?_, fun x hx y hy k => ?_, fun x hx => ?_⟩
  · unfold cutC
    by_cases c : i = bk e.H n
    · rw [if_pos c]
      subst c
      rcases List.eq_nil_or_concat xs with rfl | ⟨zs, z, rfl⟩
      · simpa [linkOf] using hl
      · refine ho.1 _ _ _ (by rw [List.mem_singleton]; simp [linkOf]; intro a; exact absurd a.symm (h.apart z (hxs z (by simp)))) ?_
        rw [h.head _ hi, hc]
        simp only [List.concat_eq_append, List.append_assoc, List.cons_append, List.nil_append]
        rw [hd_append]
    · rw [if_neg c]
      refine ho.1 _ _ _ ?_ (h.head i hi)
      · rw [List.mem_singleton]
        unfold linkOf
        split
        · intro a; injection a with _ a; exact c a
        · rename_i z hz
          intro a; injection a with a _
          exact h.apart z (hxs z (List.mem_of_getLast? hz)) a.symm
  · unfold cutC
    by_cases c : i = bk e.H n
    · rw [if_pos c]
      rcases List.eq_nil_or_concat xs with rfl | ⟨zs, z, rfl⟩
      · exact hlys
      · have hz : linkOf g (bk e.H n) (zs.concat z) = (z.b, 9) := by simp [linkOf]
        rw [hz] at ho hl
        simp only [List.concat_eq_append, List.append_assoc, List.cons_append, List.nil_append] at hlk hnd ⊢
        refine Lk.relink ho hl hlys hlk fun y hy => ?_
        intro a
        have := h.block y (hxs y (by simp [hy])) z (hxs z (by simp)) a
        subst this
        exact (List.nodup_append.1 hnd).2.2 y hy y List.mem_cons_self rfl
    · rw [if_neg c]
      refine (h.chain i hi).off ho fun x hx => ?_
      refine hoff9 x (hin i hi x hx) (fun hm => c ?_) 9
      rw [← ((h.mem i hi x).1 hx).2, ((h.mem _ hj x).1 (by rw [hc]; exact List.mem_append_left _ hm)).2]
  · unfold cutC
    by_cases c : i = bk e.H n
    · rw [if_pos c, hes]
      subst c
      have := h.mem _ hi x
      rw [hc, List.mem_append, List.mem_cons] at this
      rw [List.mem_append]
      constructor
      · intro a
        have hm := this.1 (a.elim .inl fun a => .inr (.inr a))
        refine ⟨⟨hm.1, ?_⟩, hm.2⟩
        rintro rfl
        exact a.elim hex hey
      · rintro ⟨⟨a, b⟩, c⟩
        rcases this.2 ⟨a, c⟩ with a | rfl | a
        · exact .inl a
        · exact absurd rfl b
        · exact .inr a
    · rw [if_neg c, hes, h.mem i hi]
      constructor
      · rintro ⟨a, b⟩; exact ⟨⟨a, by rintro rfl; exact c b.symm⟩, b⟩
      · rintro ⟨⟨a, _⟩, b⟩; exact ⟨a, b⟩
  · have hx := ((hes x).1 hx).1
    exact ⟨(h.lies x hx).1.off ho fun o k => hoff x hx o k, by have := (h.lies x hx).2; omega⟩
  · exact h.hash x ((hes x).1 hx).1
  · exact h.own x ((hes x).1 hx).1 y ((hes y).1 hy).1
  · unfold cutC
    by_cases c : i = bk e.H n
    · rw [if_pos c]
      exact hnd.sublist (List.Sublist.append (List.Sublist.refl _) (List.sublist_cons_self _ _))
    · rw [if_neg c]; exact h.once i hi
  · exact h.block x ((hes x).1 hx).1 y ((hes y).1 hy).1 k
  · exact h.apart x ((hes x).1 hx).1
end Go.Proofs.YtjkedocppbcncaaDoor

/-
  Layer 9: a table's entries in the order in which they came: one more behind, one less.
-/
namespace Go.Proofs.YtjkedocppbcncaaDoor
set_option maxRecDepth 100000
open Go.RowKit

theorem Lk.relink2 {A : List (Nat × Nat)} {w w' : World} {o : Nat} {x : En} {r r' : List En} (ho : Off A w w') (hx : w'.cell? ⟨x.b, o, none⟩ = some (hd r')) (hr : Lk w' o r') : ∀ {zs : List En}, Lk w o (zs ++ x :: r) → (∀ z ∈ zs, (z.b, o) ∉ A) → Lk w' o (zs ++ x :: r')
  | [], _, _ => ⟨hx, hr⟩
  | z :: zs, h, hz => by
    refine ⟨?_, Lk.relink2 ho hx hr h.2 fun y hy => hz y (List.mem_cons_of_mem _ hy)⟩
    exact ho.1 _ _ _ (hz z List.mem_cons_self) (h.1.trans (congrArg some (hd_append zs x r r')))

/-- The table in the block tb has the entries es, linked in their order. -/
structure Or (w : World) (tb : Nat) (es : List En) : Prop where
  keys : w.cell? ⟨tb, 4, none⟩ = some (.int .i64 (es.length : Nat))
  first : w.cell? ⟨tb, 5, none⟩ = some (hd es)
  last : w.cell? ⟨tb, 6, none⟩ = some (hd es.reverse)
  behind : Lk w 11 es
  ahead : Lk w 10 es.reverse
  once : (es.map En.b).Nodup
  apart : ∀ e ∈ es, e.b ≠ tb

theorem once_ne {es : List En} {x y : En} (h : (es.map En.b).Nodup) {a b : List En} (he : es = a ++ x :: b) (hy : y ∈ a ∨ y ∈ b) : y.b ≠ x.b := by
  subst he
  rw [List.map_append, List.map_cons] at h
  have h2 := List.nodup_append.1 h
  rcases hy with hy | hy
  · intro c
    exact h2.2.2 y.b (List.mem_map_of_mem hy) x.b List.mem_cons_self c
  · intro c
    exact (List.nodup_cons.1 h2.2.1).1 (by rw [← c]; exact List.mem_map_of_mem hy)

/-- What is written when an entry comes behind all others. -/
def addA (tb : Nat) (es : List En) (e : En) : List (Nat × Nat) := (match es.getLast? with
  | none => (tb, 5)
  | some z => (z.b, 11)) :: [(e.b, 10), (tb, 6), (tb, 4)]

theorem Or.add {w w' : World} {tb : Nat} {es : List En} {e : En} (h : Or w tb es) (hb : ∀ f ∈ es, f.b ≠ e.b) (ht : e.b ≠ tb) (ho : Off (addA tb es e) w w')
    (c4 : w'.cell? ⟨tb, 4, none⟩ = some (.int .i64 ((es.length + 1 : Nat) : Int))) (c6 : w'.cell? ⟨tb, 6, none⟩ = some (.pointer (some ⟨e.b, 0, none⟩))) (c10 : w'.cell? ⟨e.b, 10, none⟩ = some (hd es.reverse)) (c11 : w.cell? ⟨e.b, 11, none⟩ = some (.pointer none))
    (cl : match es.getLast? with
      | none => w'.cell? ⟨tb, 5, none⟩ = some (.pointer (some ⟨e.b, 0, none⟩))
      | some z => w'.cell? ⟨z.b, 11, none⟩ = some (.pointer (some ⟨e.b, 0, none⟩))) : Or w' tb (es ++ [e]) := by
  have c11' : w'.cell? ⟨e.b, 11, none⟩ = some (.pointer none) := by
    refine ho.1 _ _ _ ?_ c11
    unfold addA
    intro hm
    rcases List.mem_cons.1 hm with a | a
    · split at a
      · injection a with a _; exact ht a
      · rename_i z hz
        injection a with a _; exact hb z (List.mem_of_getLast? hz) a.symm
    · simp only [List.mem_cons, Prod.mk.injEq, List.not_mem_nil, or_false] at a
      omega
  have hl10 : ∀ z ∈ es, (z.b, 10) ∉ addA tb es e := by
    intro z hz hm
    unfold addA at hm
    rcases List.mem_cons.1 hm with a | a
    · split at a
      · injection a with _ a; omega
      · injection a with _ a; omega
    · simp only [List.mem_cons, Prod.mk.injEq, List.not_mem_nil, or_false] at a
      rcases a with ⟨a, _⟩ | ⟨_, a⟩ | ⟨_, a⟩
      · exact hb z hz a
      · omega
      · omega
  refine ⟨by rw [c4]; simp, ?_, by rw [c6]; simp [hd], ?_, ?_, ?_, ?_⟩
  · rcases List.eq_nil_or_concat es with rfl | ⟨zs, z, rfl⟩
    · exact cl
    · refine ho.1 _ _ _ ?_ (h.first.trans ?_)
      rotate_left
      · simp only [List.concat_eq_append, List.append_assoc, List.cons_append, List.nil_append]
        rw [hd_append]
      · unfold addA
        intro hm
        rcases List.mem_cons.1 hm with a | a
        · simp at a
        · simp only [List.mem_cons, Prod.mk.injEq, List.not_mem_nil, or_false] at a
          omega
  · rcases List.eq_nil_or_concat es with rfl | ⟨zs, z, rfl⟩
    · exact ⟨c11', trivial⟩
    · have hlk := h.behind
      simp only [List.concat_eq_append, List.append_assoc, List.cons_append, List.nil_append] at hlk cl ⊢
      refine Lk.relink2 ho (r' := [e]) (by simpa [hd] using cl) ⟨c11', trivial⟩ hlk fun y hy => ?_
      intro hm
      have hyb := hb y (by simp [hy])
      unfold addA at hm
      rcases List.mem_cons.1 hm with a | a
      · simp at a
        exact once_ne h.once (a := zs) (b := []) (by simp) (.inl hy) a
      · simp only [List.mem_cons, Prod.mk.injEq, List.not_mem_nil, or_false] at a
        omega
  · rw [List.reverse_append]
    refine ⟨c10, h.ahead.off ho fun z hz => hl10 z (List.mem_reverse.1 hz)⟩
  · rw [List.map_append]
    refine List.nodup_append.2 ⟨h.once, by simp, fun a ha b hb' => ?_⟩
    obtain ⟨f, hf, rfl⟩ := List.mem_map.1 ha
    simp at hb'
    subst hb'
    exact hb f hf
  · intro f hf
    rcases List.mem_append.1 hf with hf | hf
    · exact h.apart f hf
    · rw [List.mem_singleton] at hf; subst hf; exact ht

/-- What is written when an entry goes from between xs and ys. -/
def dropA (tb : Nat) (xs ys : List En) : List (Nat × Nat) := [(match xs.getLast? with
  | none => (tb, 5)
  | some z => (z.b, 11)), (match ys with
  | [] => (tb, 6)
  | y :: _ => (y.b, 10)), (tb, 4)]

theorem dropA_cases {tb : Nat} {xs ys : List En} {a o : Nat} (h : (a, o) ∈ dropA tb xs ys) : (a = tb ∧ (o = 4 ∨ (o = 5 ∧ xs = []) ∨ (o = 6 ∧ ys = []))) ∨ (o = 11 ∧ ∃ z, xs.getLast? = some z ∧ a = z.b) ∨ (o = 10 ∧ ∃ y l, ys = y :: l ∧ a = y.b) := by
  unfold dropA at h
  rcases List.mem_cons.1 h with c | h
  · cases hx : xs.getLast? with
    | none =>
      rw [hx] at c; injection c with c d
      exact .inl ⟨c, .inr (.inl ⟨d, List.getLast?_eq_none_iff.1 hx⟩)⟩
    | some z => rw [hx] at c; injection c with c d; exact .inr (.inl ⟨d, z, rfl, c⟩)
  · rcases List.mem_cons.1 h with c | h
    · cases ys with
      | nil => injection c with c d; exact .inl ⟨c, .inr (.inr ⟨d, rfl⟩)⟩
      | cons y l => injection c with c d; exact .inr (.inr ⟨d, y, l, rfl, c⟩)
    · rw [List.mem_singleton] at h
      injection h with c d; exact .inl ⟨c, .inl d⟩

theorem Or.drop {w w' : World} {tb : Nat} {xs ys : List En} {e : En} (h : Or w tb (xs ++ e :: ys)) (ho : Off (dropA tb xs ys) w w')
    (c4 : w'.cell? ⟨tb, 4, none⟩ = some (.int .i64 ((xs.length + ys.length : Nat) : Int)))
    (cb : match xs.getLast? with
      | none => w'.cell? ⟨tb, 5, none⟩ = some (hd ys)
      | some z => w'.cell? ⟨z.b, 11, none⟩ = some (hd ys))
    (ca : match ys with
      | [] => w'.cell? ⟨tb, 6, none⟩ = some (hd xs.reverse)
      | y :: _ => w'.cell? ⟨y.b, 10, none⟩ = some (hd xs.reverse)) : Or w' tb (xs ++ ys) := by
  have hrev : (xs ++ e :: ys).reverse = ys.reverse ++ e :: xs.reverse := by simp
  have hbe := h.behind
  have hah := h.ahead
  rw [hrev] at hah
  have hon := h.once
  have ny : ∀ y ∈ ys, (y.b, 11) ∉ dropA tb xs ys := by
    intro y hy hm
    rcases dropA_cases hm with ⟨a, _⟩ | ⟨_, z, hz, a⟩ | ⟨a, _⟩
    · exact h.apart y (by simp [hy]) a
    · rw [List.map_append] at hon
      exact (List.nodup_append.1 hon).2.2 z.b (List.mem_map_of_mem (List.mem_of_getLast? hz)) y.b (List.mem_map_of_mem (List.mem_cons_of_mem _ hy)) a.symm
    · omega
  have nx : ∀ x ∈ xs, (x.b, 10) ∉ dropA tb xs ys := by
    intro x hx hm
    rcases dropA_cases hm with ⟨a, _⟩ | ⟨a, _⟩ | ⟨_, y, l, hy, a⟩
    · exact h.apart x (by simp [hx]) a
    · omega
    · rw [List.map_append] at hon
      exact (List.nodup_append.1 hon).2.2 x.b (List.mem_map_of_mem hx) y.b (List.mem_map_of_mem (by rw [hy]; simp)) a
  have hys : Lk w' 11 ys := (Lk.tail (zs := xs ++ [e]) (by simpa using hbe)).off ho ny
  have hxs : Lk w' 10 xs.reverse := (Lk.tail (zs := ys.reverse ++ [e]) (by simpa using hah)).off ho fun x hx => nx x (List.mem_reverse.1 hx)
  refine ⟨by rw [c4]; simp, ?_, ?_, ?_, ?_, ?_, ?_⟩
  · rcases List.eq_nil_or_concat xs with rfl | ⟨zs, z, rfl⟩
    · exact cb
    · refine ho.1 _ _ _ ?_ (h.first.trans ?_)
      rotate_left
      · simp only [List.concat_eq_append, List.append_assoc, List.cons_append, List.nil_append]
        rw [hd_append]
      · intro hm
        rcases dropA_cases hm with ⟨_, a | ⟨_, a⟩ | ⟨a, _⟩⟩ | ⟨a, _⟩ | ⟨a, _⟩
        · omega
        · simp at a
        · omega
        · omega
        · omega
  · cases ys with
    | nil => rw [ca]; simp
    | cons y l =>
      refine ho.1 _ _ _ ?_ (h.last.trans ?_)
      rotate_left
      · rw [hrev]
        simp only [List.reverse_append, List.reverse_cons, List.append_assoc, List.cons_append, List.nil_append]
        rw [hd_append]
      · intro hm
        rcases dropA_cases hm with ⟨_, a | ⟨a, _⟩ | ⟨_, a⟩⟩ | ⟨a, _⟩ | ⟨a, _⟩
        · omega
        · omega
        · simp at a
        · omega
        · omega
  · rcases List.eq_nil_or_concat xs with rfl | ⟨zs, z, rfl⟩
    · exact hys
    · simp only [List.concat_eq_append, List.append_assoc, List.cons_append, List.nil_append] at hbe ⊢
      refine Lk.relink2 ho (by simpa using cb) hys hbe fun y hy => ?_
      intro hm
      rcases dropA_cases hm with ⟨a, _⟩ | ⟨_, z', hz, a⟩ | ⟨a, _⟩
      · exact h.apart y (by simp [hy]) a
      · simp at hz
        subst hz
        exact once_ne hon (a := zs) (b := e :: ys) (by simp) (.inl hy) a
      · omega
  · rw [List.reverse_append]
    cases ys with
    | nil => exact hxs
    | cons y l =>
      simp only [List.reverse_cons, List.append_assoc, List.cons_append, List.nil_append] at hah ⊢
      refine Lk.relink2 ho ca hxs hah fun x hx => ?_
      intro hm
      rw [List.mem_reverse] at hx
      rcases dropA_cases hm with ⟨a, _⟩ | ⟨a, _⟩ | ⟨_, y', l', hy, a⟩
      · exact h.apart x (by simp [hx]) a
      · omega
      · injection hy with hy _
        subst hy
        exact once_ne hon (a := xs ++ [e]) (b := l) (by simp) (.inr hx) a
  · exact hon.sublist (List.Sublist.map _ (List.Sublist.append (List.Sublist.refl _) (List.sublist_cons_self _ _)))
  · intro x hx
    refine h.apart x ?_
    rcases List.mem_append.1 hx with hx | hx
    · exact List.mem_append_left _ hx
    · exact List.mem_append_right _ (List.mem_cons_of_mem _ hx)
end Go.Proofs.YtjkedocppbcncaaDoor
