/-
  HpHash, HpFind, HpGet, Flo, FloSpec, FloRound
-/
import Derived.Test.YtjkedocppbcncaaDoorRows
import Derived.WalkKit
import Derived.ProofKit
import Derived.OpenShut
import Derived.ShutString
import Derived.ChangeOld
import Derived.Below
import Derived.Deep.Light
import Derived.Deep.DeepCutAuto
import Derived.Laws.Closers25b
import Derived.Laws.Bits64b
import Derived.Deep.QuietTactic
import Derived.BigQuiet
import Derived.Deep.RegionWith
import Derived.Deep.LoopGhost
import Ieee.Arith
import Derived.Laws.BitsAllLaws
import Derived.Lib.BitFns

/-
  Layer 9: the hash of a key: some number that the key alone decides.
-/
namespace Go.Proofs.YtjkedocppbcncaaDoor
set_option maxRecDepth 100000
open Go.RowKit

/-- One part mixed into a hash. -/
def mixA (h p : Int) : Int := IntKind.u64.wrap (bits BinOp.xor IntKind.u64 h p * 11400714819323198485)
def mixZ (h p : Int) : Int := bits BinOp.xor IntKind.u64 (mixA h p) (mixA h p / 4294967296)
theorem mixZ_in (h p : Int) : 0 ≤ mixZ h p ∧ mixZ h p ≤ 18446744073709551615 := bits_within _ .u64 _ _

/-- The block b holds the number h; all else is as it was. -/
def Mx (b : Nat) (h : Int) (w w' : World) : Prop :=
  w'.cell? ⟨b, 0, none⟩ = some (.int .u64 h) ∧ w'.frozen? ⟨b, 0, none⟩ = false ∧ (∀ k o, k ≠ b → w'.cell? ⟨k, o, none⟩ = w.cell? ⟨k, o, none⟩) ∧ (∀ B W, B ≤ b → Below B W w → Below B W w')

set_option maxHeartbeats 1000000 in
theorem mix_any (p h : Int) (b : Nat) (w : World) (hc : w.cell? ⟨b, 0, none⟩ = some (.int .u64 h)) (hz : w.frozen? ⟨b, 0, none⟩ = false) :
    Calls Tryd.prog 59 #[.int .u64 p, .pointer (some ⟨b, 0, none⟩)] w fun e w' => e = .returned (.tuple #[]) ∧ Mx b (mixZ h p) w w' := by
  have HM : Hid (Mx b (mixZ h p) w ((w.setCell ⟨b, 0, none⟩ (.int .u64 (mixA h p))).setCell ⟨b, 0, none⟩ (.int .u64 (mixZ h p)))) := by
    refine ⟨?_, ?_, ?_, ?_⟩
    · exact World.cell?_setCell_same _ _ _ (World.cell?_setCell_same _ _ _ hc)
    · rw [World.frozen?_setCell, World.frozen?_setCell]; exact hz
    · intro k o hk
      rw [World.cell?_setCell_other _ _ _ _ (by simp; try omega), World.cell?_setCell_other _ _ _ _ (by simp; try omega)]
    · intro B W hB hb
      exact (hb.setCell (p := ⟨b, 0, none⟩) hB _).setCell (p := ⟨b, 0, none⟩) hB _
  unfold mixZ mixA at HM
  unfold mixZ mixA
  go_enter Tryd.func59, Tryd.ntmps59
  go_wp2
  go_end0
  exact ⟨rfl, HM.out⟩

/-- The bytes of a text mixed into a hash, and what is left over. -/
def byteZ (S : ByteArray) (i : Nat) : Int := if h : i < S.size then IntKind.u64.wrap ((S[i].toNat : Nat) : Int) else 0
def hw (S : ByteArray) (h : Int) : Nat → Int × Int
  | 0 => (h, 0)
  | i + 1 => if i % 8 = 7 then (mixZ (hw S h i).1 (bits BinOp.or IntKind.u64 (IntKind.u64.wrap ((hw S h i).2 * 256)) (byteZ S i)), 0)
      else ((hw S h i).1, bits BinOp.or IntKind.u64 (IntKind.u64.wrap ((hw S h i).2 * 256)) (byteZ S i))
theorem hw_put (S : ByteArray) (h : Int) (i : Nat) (hi : i < S.size) (h8 : i % 8 = 7) : hw S h (i + 1) = (mixZ (hw S h i).1 (bits BinOp.or IntKind.u64 (IntKind.u64.wrap ((hw S h i).2 * 256)) (IntKind.u64.wrap ((S[i].toNat : Nat) : Int))), 0) := by
  rw [hw, if_pos h8, byteZ, dif_pos hi]
theorem hw_keep (S : ByteArray) (h : Int) (i : Nat) (hi : i < S.size) (h8 : ¬ i % 8 = 7) : hw S h (i + 1) = ((hw S h i).1, bits BinOp.or IntKind.u64 (IntKind.u64.wrap ((hw S h i).2 * 256)) (IntKind.u64.wrap ((S[i].toNat : Nat) : Int))) := by
  rw [hw, if_neg h8, byteZ, dif_pos hi]
def hZ (K N : Int) (S : ByteArray) (O : Int) : Int :=
  let h := mixZ (mixZ (mixZ (mixZ 0 (IntKind.u64.wrap K)) N) (IntKind.u64.wrap O)) (S.size : Nat)
  mixZ (hw S h S.size).1 (hw S h S.size).2

/-- What the hash's function keeps: the key in its box, the hash in its own. -/
def HS (w : World) (K N : Int) (S : ByteArray) (O h : Int) (w' : World) : Prop :=
  w'.cell? ⟨w.heap.size, 0, none⟩ = some (.int .i64 K) ∧ w'.cell? ⟨w.heap.size, 1, none⟩ = some (.int .u64 N) ∧ w'.cell? ⟨w.heap.size, 2, none⟩ = some (.string S) ∧ w'.cell? ⟨w.heap.size, 3, none⟩ = some (.int .i64 O) ∧
  w'.cell? ⟨w.heap.size + 1, 0, none⟩ = some (.int .u64 h) ∧ w'.frozen? ⟨w.heap.size + 1, 0, none⟩ = false ∧ Below w.heap.size w w'
theorem HS.mx {w w1 w2 : World} {K N O h h' : Int} {S : ByteArray} (H : HS w K N S O h w1) (m : Mx (w.heap.size + 1) h' w1 w2) : HS w K N S O h' w2 := by
  obtain ⟨c0, c1, c2, c3, c4, c5, c6⟩ := H
  obtain ⟨m0, m1, m2, m3⟩ := m
  exact ⟨(m2 _ _ (by omega)).trans c0, (m2 _ _ (by omega)).trans c1, (m2 _ _ (by omega)).trans c2, (m2 _ _ (by omega)).trans c3, m0, m1, m3 _ _ (by omega) c6⟩
theorem HS.first (w : World) (K N : Int) (S : ByteArray) (O : Int) :
    HS w K N S O 0 ((w.alloc (.cells #[.int .i64 K, .int .u64 N, .string S, .int .i64 O] 35)).alloc (.cells #[.int .u64 0] 32)) := by
  refine ⟨?_, ?_, ?_, ?_, ?_, ?_, ((Below.refl _ _).alloc (Nat.le_refl _) _).alloc (by simp) _⟩ <;> go_simp

set_option maxHeartbeats 1000000 in
theorem hash_any (K N : Int) (S : ByteArray) (O : Int) (w : World) (hS : S.size ≤ 9223372036854775807) :
    Calls Tryd.prog 37 #[.agg #[.int .i64 K, .int .u64 N, .string S, .int .i64 O]] w fun e w' => e = .returned (.int .u64 (hZ K N S O)) ∧ Below w.heap.size w w' := by
  have H0 : Hid (HS w K N S O 0 ((w.alloc (.cells #[.int .i64 K, .int .u64 N, .string S, .int .i64 O] 35)).alloc (.cells #[.int .u64 0] 32))) := HS.first w K N S O
  unfold hZ
  obtain ⟨h, hh⟩ : ∃ h, mixZ (mixZ (mixZ (mixZ 0 (IntKind.u64.wrap K)) N) (IntKind.u64.wrap O)) (S.size : Nat) = h := ⟨_, rfl⟩
  have HH : Hid (mixZ (mixZ (mixZ (mixZ 0 (IntKind.u64.wrap K)) N) (IntKind.u64.wrap O)) (S.size : Nat) = h) := hh
  rw [hh]
  clear hh
  show Calls _ _ _ _ fun e w' => e = .returned (.int .u64 (mixZ (hw S h S.size).1 (hw S h S.size).2)) ∧ _
  go_enter Tryd.func37, Tryd.ntmps37
  go_wp2_with fail
  refine (mix_any _ 0 _ _ H0.out.2.2.2.2.1 H0.out.2.2.2.2.2.1).mono ?_
  rintro e w1 ⟨rfl, m1⟩
  have H1 : Hid (HS w K N S O _ w1) := H0.out.mx m1
  clear m1 H0
  have c := H1.out.2.1
  go_wp2_with fail
  refine (mix_any _ _ _ _ H1.out.2.2.2.2.1 H1.out.2.2.2.2.2.1).mono ?_
  rintro e w2 ⟨rfl, m1⟩
  have H2 : Hid (HS w K N S O _ w2) := H1.out.mx m1
  clear m1 H1 c
  have c := H2.out.2.2.2.1
  go_wp2_with fail
  refine (mix_any _ _ _ _ H2.out.2.2.2.2.1 H2.out.2.2.2.2.2.1).mono ?_
  rintro e w3 ⟨rfl, m1⟩
  have H3 : Hid (HS w K N S O _ w3) := H2.out.mx m1
  clear m1 H2 c
  have c := H3.out.2.2.1
  go_wp2_with fail
  refine (mix_any _ _ _ _ H3.out.2.2.2.2.1 H3.out.2.2.2.2.2.1).mono ?_
  rintro e w4 ⟨rfl, m1⟩
  have H4 : Hid (HS w K N S O _ w4) := H3.out.mx m1
  clear m1 H3 c
  have c := H4.out.2.2.1
  rw [HH.out] at H4
  go_wp2_with fail
  go_loopw [5, 31] (fun t5 t31 wr => ∃ i : Nat, i ≤ S.size ∧ t31 = .int .i64 i ∧ t5 = .int .u64 (hw S h i).2 ∧ Hid (HS w K N S O (hw S h i).1 wr)) (fun _ t31 _ => S.size - (intOf t31).toNat)
  case atStart => exact ⟨0, Nat.zero_le _, rfl, rfl, H4.out⟩
  case round =>
    obtain ⟨i, hi, rfl, rfl, HI⟩ := hrel
    clear H4 c
    have c := HI.out.2.2.1
    by_cases hil : i < S.size
    · go_wp2_with fail
      · rename_i hm _ _ _ _
        have h8 : i % 8 = 7 := by simp at hm; omega
        have HE : Hid (hw S h (i + 1) = _) := hw_put S h i hil h8
        refine (mix_any _ _ _ _ HI.out.2.2.2.2.1 HI.out.2.2.2.2.2.1).mono ?_
        rintro e w5 ⟨rfl, m1⟩
        have H5 : Hid (HS w K N S O _ w5) := HI.out.mx m1
        clear m1 HI c
        go_wp2_with fail
        have e := HE.out
        exact ⟨⟨i + 1, hil, rfl, by rw [e], by rw [e]; exact H5⟩, by simp [intOf]; omega⟩
      · rename_i hm
        have h8 : ¬ i % 8 = 7 := by simp at hm; omega
        have e := hw_keep S h i hil h8
        exact ⟨⟨i + 1, hil, rfl, by rw [e], by rw [e]; exact HI⟩, by simp [intOf]; omega⟩
    · have he : i = S.size := by omega
      subst he
      go_wp2_with fail
      refine (mix_any _ _ _ _ HI.out.2.2.2.2.1 HI.out.2.2.2.2.2.1).mono ?_
      rintro e w5 ⟨rfl, m1⟩
      have H5 := HI.out.mx m1
      have c2 := H5.2.2.2.2.1
      have HB : Hid (Below w.heap.size w w5) := H5.2.2.2.2.2.2
      clear m1 H5 HI c
      go_wp2
      go_ret
      exact ⟨rfl, HB.out⟩
end Go.Proofs.YtjkedocppbcncaaDoor

/-
  Layer 9: where a key lies: bucket, find.
-/
namespace Go.Proofs.YtjkedocppbcncaaDoor
set_option maxRecDepth 100000
open Go.RowKit

/-- Which of n buckets is a hash's. -/
def bk (H n : Nat) : Nat := H &&& (n - 1)
theorem bk_lt (H : Nat) {n : Nat} (h : 0 < n) : bk H n < n := by
  have : bk H n ≤ n - 1 := Nat.and_le_right
  omega

set_option maxHeartbeats 1000000 in
theorem bucket_any (tb g n cap H : Nat) (w : World) (hc : w.cell? ⟨tb, 7, none⟩ = some (.slice (some ⟨g, 0, none⟩) n cap)) (h0 : 0 < n) (hn : n ≤ 1099511627776) (hH : H < 18446744073709551616) :
    Calls Tryd.prog 64 #[.pointer (some ⟨tb, 0, none⟩), .int .u64 (H : Int)] w fun e w' => e = .returned (.pointer (some ⟨g, bk H n, none⟩)) ∧ w' = w.drew := by
  have hb := bk_lt H h0
  have ha : bits .and .u64 (H : Int) ((n - 1 : Nat) : Int) = ((bk H n : Nat) : Int) := bits_and_u64_nat H (n - 1) hH (by omega)
  have hs : ((n : Int) - 1) = ((n - 1 : Nat) : Int) := by omega
  obtain ⟨j, hj⟩ : ∃ j, bk H n = j := ⟨_, rfl⟩
  rw [hj] at ha hb ⊢
  rw [← hs] at ha
  clear hs hj
  go_enter Tryd.func64, Tryd.ntmps64
  go_wp2_with fail
  go_region
  go_wp2
  go_ret
  exact ⟨rfl, rfl⟩

/-- An entry: its block, its key, its hash, its value. -/
structure En where
  b : Nat
  K : Int
  N : Int
  S : ByteArray
  O : Int
  H : Nat
  vK : Int
  vN : Int
  vS : ByteArray
  vO : Int
/-- It lies so in memory (its links apart). -/
def EnC (w : World) (e : En) : Prop :=
  w.cell? ⟨e.b, 0, none⟩ = some (.int .i64 e.K) ∧ w.cell? ⟨e.b, 1, none⟩ = some (.int .u64 e.N) ∧ w.cell? ⟨e.b, 2, none⟩ = some (.string e.S) ∧ w.cell? ⟨e.b, 3, none⟩ = some (.int .i64 e.O) ∧
  w.cell? ⟨e.b, 4, none⟩ = some (.int .i64 e.vK) ∧ w.cell? ⟨e.b, 5, none⟩ = some (.int .u64 e.vN) ∧ w.cell? ⟨e.b, 6, none⟩ = some (.string e.vS) ∧ w.cell? ⟨e.b, 7, none⟩ = some (.int .i64 e.vO) ∧
  w.cell? ⟨e.b, 8, none⟩ = some (.int .u64 e.H)
/-- The pointer to the first of a list of entries. -/
def hd : List En → Value
  | [] => .pointer none
  | e :: _ => .pointer (some ⟨e.b, 0, none⟩)
/-- Each entry's cell o leads to the next one, the last one's nowhere. -/
def Lk (w : World) (o : Nat) : List En → Prop
  | [] => True
  | e :: l => w.cell? ⟨e.b, o, none⟩ = some (hd l) ∧ Lk w o l
/-- Whether an entry is of a key. -/
def isE (K N : Int) (S : ByteArray) (O : Int) (H : Nat) (e : En) : Bool := decide (e.H = H ∧ e.K = K ∧ e.N = N ∧ e.S = S ∧ e.O = O)
/-- The rest of a chain from the entry of a key on. -/
def seek (K N : Int) (S : ByteArray) (O : Int) (H : Nat) : List En → List En
  | [] => []
  | e :: l => if isE K N S O H e then e :: l else seek K N S O H l

theorem toList_loop0 (s : ByteArray) : ∀ (n i : Nat) (r : List UInt8), s.size - i = n → ByteArray.toList.loop s i r = r.reverse ++ s.data.toList.drop i := by
  intro n
  induction n with
  | zero =>
    intro i r h
    unfold ByteArray.toList.loop
    rw [if_neg (by omega), List.drop_eq_nil_of_le (by simp only [Array.length_toList]; exact Nat.le_of_sub_eq_zero h), List.append_nil]
  | succ n ih =>
    intro i r h
    unfold ByteArray.toList.loop
    have hi : i < s.data.toList.length := by simp only [Array.length_toList]; exact Nat.lt_of_sub_eq_succ h
    rw [if_pos (by omega), ih (i + 1) _ (by omega), List.reverse_cons, List.append_assoc, List.drop_eq_getElem_cons hi]
    congr 1
    have : s.get! i = s.data.toList[i] := by
      simp only [ByteArray.get!, Array.getElem_toList]
      exact getElem!_pos s.data i (by simpa using hi)
    rw [this]; rfl
theorem toList_data0 (s : ByteArray) : s.toList = s.data.toList := by
  unfold ByteArray.toList
  rw [toList_loop0 s _ 0 [] rfl]; rfl
theorem text_inj0 {s t : ByteArray} (h : s.toList = t.toList) : s = t := by
  rw [toList_data0, toList_data0] at h
  cases s; cases t; congr 1; exact Array.toList_inj.1 h

set_option maxHeartbeats 4000000 in
theorem find_any (tb g n cap H : Nat) (K N : Int) (S : ByteArray) (O : Int) (ks : Nat) (l : List En) (w : World) (htb : tb < w.heap.size) (hk : w.cell? ⟨tb, 4, none⟩ = some (.int .i64 (ks : Int)))
    (hc : 0 < ks → w.cell? ⟨tb, 7, none⟩ = some (.slice (some ⟨g, 0, none⟩) n cap) ∧ 0 < n ∧ n ≤ 1099511627776 ∧ w.cell? ⟨g, bk H n, none⟩ = some (hd l) ∧ Lk w 9 l ∧ (∀ e ∈ l, EnC w e ∧ e.b < w.heap.size) ∧ g < w.heap.size)
    (h0 : ks = 0 → l = []) (hH : H < 18446744073709551616) :
    Calls Tryd.prog 49 #[.pointer (some ⟨tb, 0, none⟩), .agg #[.int .i64 K, .int .u64 N, .string S, .int .i64 O], .int .u64 (H : Int)] w fun e w' => e = .returned (hd (seek K N S O H l)) ∧ Below w.heap.size w w' := by
  have HB : Hid (Below w.heap.size w (w.alloc (.cells #[.int .i64 K, .int .u64 N, .string S, .int .i64 O] 35))) := (Below.refl _ _).alloc (Nat.le_refl _) _
  by_cases k0 : ks = 0
  · have := h0 k0
    subst this k0
    clear hc h0
    show Calls _ _ _ _ fun e w' => e = .returned (.pointer none) ∧ _
    go_enter Tryd.func49, Tryd.ntmps49
    go_wp2
    go_step3
    go_wp2
    try rw [Exit.noGoto_ret]
    go_ret
    exact ⟨rfl, HB.out⟩
  · obtain ⟨c7, n0, n1, cb, lk, en, hg⟩ := hc (by omega)
    clear hc h0
    have k1 : ¬ (ks : Int) = 0 := by omega
    have HBK : Hid (∀ w', w'.cell? ⟨tb, 7, none⟩ = some (.slice (some ⟨g, 0, none⟩) n cap) → Calls Tryd.prog 64 #[.pointer (some ⟨tb, 0, none⟩), .int .u64 (H : Int)] w' fun e w'' => e = .returned (.pointer (some ⟨g, bk H n, none⟩)) ∧ w'' = w'.drew) := fun w' h => bucket_any tb g n cap H w' h n0 n1 hH
    generalize bk H n = j at *
    have HC7 : Hid (w.cell? ⟨tb, 7, none⟩ = some (.slice (some ⟨g, 0, none⟩) n cap)) := c7
    have HLK : Hid (Lk w 9 l ∧ ∀ e ∈ l, EnC w e ∧ e.b < w.heap.size) := ⟨lk, en⟩
    have HN : Hid (0 < n ∧ n ≤ 1099511627776 ∧ ¬ ks = 0) := ⟨n0, n1, k0⟩
    clear c7 lk en n0 n1 k0
    go_enter Tryd.func49, Tryd.ntmps49
    go_wp2
    go_step3
    go_wp2_with fail
    refine (HBK.out _ ((HB.out.cell htb).trans HC7.out)).mono ?_
    rintro e w1 ⟨rfl, rfl⟩
    clear HBK HC7 HN hk k1 hH
    go_wp2
    go_step3
    go_wp2
    go_loopg [7] l.length (fun k p wr => ∃ r : List En, p = hd r ∧ Hid (k = r.length ∧ seek K N S O H l = seek K N S O H r ∧ Lk w 9 r ∧ (∀ e ∈ r, EnC w e ∧ e.b < w.heap.size) ∧ Below w.heap.size w wr) ∧
      wr.cell? ⟨w.heap.size, 0, none⟩ = some (.int .i64 K) ∧ wr.cell? ⟨w.heap.size, 1, none⟩ = some (.int .u64 N) ∧ wr.cell? ⟨w.heap.size, 2, none⟩ = some (.string S) ∧ wr.cell? ⟨w.heap.size, 3, none⟩ = some (.int .i64 O))
    case atStart => exact ⟨l, rfl, ⟨rfl, rfl, HLK.out.1, HLK.out.2, HB.out.drew⟩, by go_simp, by go_simp, by go_simp, by go_simp⟩
    case round =>
      obtain ⟨r, rfl, HI, b0, b1, b2, b3⟩ := hrel
      clear HB HLK cb
      rcases r with _ | ⟨e, r⟩
      · rw [hd]
        go_wp2
        try rw [Exit.noGoto_ret]
        go_ret
        refine ⟨?_, HI.out.2.2.2.2⟩
        rw [HI.out.2.1]; rfl
      · rw [hd]
        obtain ⟨hgk, hsk, ⟨hl, hlr⟩, hen, hbel⟩ := HI.out
        obtain ⟨⟨e0, e1, e2, e3, _, _, _, _, e8⟩, elt⟩ := hen e List.mem_cons_self
        rw [← hbel.cell elt] at e0 e1 e2 e3 e8 hl
        have HNX : Hid (∀ wr', Below w.heap.size w wr' → isE K N S O H e = false → r.length < gk ∧ (seek K N S O H l = seek K N S O H r ∧ Lk w 9 r ∧ (∀ e ∈ r, EnC w e ∧ e.b < w.heap.size) ∧ Below w.heap.size w wr')) := by
          intro wr' hb' hf
          refine ⟨by simp at hgk; omega, ?_, hlr, fun x hx => hen x (List.mem_cons_of_mem _ hx), hb'⟩
          rw [hsk, seek, if_neg (by rw [hf]; decide)]
        have HBL : Hid (Below w.heap.size w wr) := hbel
        have HFD : Hid (isE K N S O H e = true → hd (seek K N S O H l) = .pointer (some ⟨e.b, 0, none⟩)) := by
          intro h; rw [hsk, seek, if_pos h]; rfl
        clear HI hgk hsk hlr hen hbel
        obtain ⟨u, hu⟩ : ∃ u, hd r = .pointer u := by cases r <;> exact ⟨_, rfl⟩
        have HU : Hid (hd r = .pointer u) := hu
        rw [hu] at hl
        clear hu
        by_cases hh : e.H = H
        · by_cases hq : e.K = K ∧ e.N = N ∧ e.S = S ∧ e.O = O
          · have HT : Hid (isE K N S O H e = true) := by show isE K N S O H e = true; unfold isE; exact decide_eq_true ⟨hh, hq⟩
            obtain ⟨q0, q1, q2, q3⟩ := hq
            rw [hh] at e8; rw [q0] at e0; rw [q1] at e1; rw [q2] at e2; rw [q3] at e3
            generalize e.b = eb at *
            clear hh q0 q1 q2 q3
            go_wp2_with fail
            go_region
            go_wp2
            try rw [Exit.noGoto_ret]
            go_ret
            exact ⟨by rw [HFD.out HT.out]; rfl, HBL.out.drew⟩
          · have HT : Hid (isE K N S O H e = false) := by show isE K N S O H e = false; unfold isE; exact decide_eq_false (fun h => hq h.2)
            have hq4 : ¬ e.K = K ∨ (e.K = K ∧ ¬ e.N = N) ∨ (e.K = K ∧ e.N = N ∧ ¬ e.S.toList = S.toList) ∨ (e.K = K ∧ e.N = N ∧ e.S = S ∧ ¬ e.O = O) := by
              by_cases a : e.K = K
              · by_cases b : e.N = N
                · by_cases c : e.S = S
                  · exact .inr (.inr (.inr ⟨a, b, c, fun d => hq ⟨a, b, c, d⟩⟩))
                  · exact .inr (.inr (.inl ⟨a, b, fun d => c (text_inj0 d)⟩))
                · exact .inr (.inl ⟨a, b⟩)
              · exact .inl a
            rw [hh] at e8
            generalize e.K = eK at *
            generalize e.N = eN at *
            generalize e.S = eS at *
            generalize e.O = eO at *
            generalize e.b = eb at *
            clear hh hq
            rcases hq4 with q | ⟨rfl, q⟩ | ⟨rfl, rfl, q⟩ | ⟨rfl, rfl, rfl, q⟩
            all_goals
              go_wp2_with fail
              go_region
              go_wp2_with fail
              go_roundg r.length
              case measure => exact (HNX.out _ HBL.out HT.out).1
              case rel => exact ⟨r, HU.out.symm, ⟨rfl, (HNX.out _ HBL.out.drew HT.out).2⟩, b0, b1, b2, b3⟩
        · have hh' : ¬ (e.H : Int) = (H : Int) := by omega
          have HT : Hid (isE K N S O H e = false) := by show isE K N S O H e = false; unfold isE; exact decide_eq_false (fun h => hh h.1)
          clear hh
          go_wp2_with fail
          go_roundg r.length
          case measure => exact (HNX.out _ HBL.out HT.out).1
          case rel => exact ⟨r, HU.out.symm, ⟨rfl, (HNX.out _ HBL.out HT.out).2⟩, b0, b1, b2, b3⟩
end Go.Proofs.YtjkedocppbcncaaDoor

/-
  Layer 9: what a table has under a key; the numbers of objects.
-/
namespace Go.Proofs.YtjkedocppbcncaaDoor
set_option maxRecDepth 100000
open Go.RowKit

/-- A value in four cells. -/
def vl4 (K N : Int) (S : ByteArray) (O : Int) : Value := .agg #[.int .i64 K, .int .u64 N, .string S, .int .i64 O]
/-- The value of the first of a list of entries, Nil of none. -/
def valOf : List En → Value
  | [] => vl4 0 0 ⟨#[]⟩ 0
  | e :: _ => vl4 e.vK e.vN e.vS e.vO

/-- A table's keys are n; the chain of the hash H is l. -/
def Ch (w : World) (tb ks g n cap H : Nat) (l : List En) : Prop :=
  tb < w.heap.size ∧ w.cell? ⟨tb, 4, none⟩ = some (.int .i64 (ks : Int)) ∧
  (0 < ks → w.cell? ⟨tb, 7, none⟩ = some (.slice (some ⟨g, 0, none⟩) n cap) ∧ 0 < n ∧ n ≤ 1099511627776 ∧ w.cell? ⟨g, bk H n, none⟩ = some (hd l) ∧ Lk w 9 l ∧ (∀ e ∈ l, EnC w e ∧ e.b < w.heap.size) ∧ g < w.heap.size) ∧
  (ks = 0 → l = []) ∧ H < 18446744073709551616
theorem EnC.below {w w' : World} {B : Nat} {e : En} (h : EnC w e) (hb : Below B w w') (hl : e.b < B) : EnC w' e := by
  obtain ⟨h0, h1, h2, h3, h4, h5, h6, h7, h8⟩ := h
  exact ⟨(hb.cell hl).trans h0, (hb.cell hl).trans h1, (hb.cell hl).trans h2, (hb.cell hl).trans h3, (hb.cell hl).trans h4, (hb.cell hl).trans h5, (hb.cell hl).trans h6, (hb.cell hl).trans h7, (hb.cell hl).trans h8⟩
theorem Lk.below {w w' : World} {B o : Nat} (hb : Below B w w') : ∀ {l : List En}, Lk w o l → (∀ e ∈ l, e.b < B) → Lk w' o l
  | [], _, _ => trivial
  | e :: _, h, hl => ⟨(hb.cell (hl e List.mem_cons_self)).trans h.1, Lk.below hb h.2 fun x hx => hl x (List.mem_cons_of_mem _ hx)⟩
theorem Ch.below {w w' : World} {tb ks g n cap H : Nat} {l : List En} (h : Ch w tb ks g n cap H l) (hb : Below w.heap.size w w') : Ch w' tb ks g n cap H l := by
  obtain ⟨h0, h1, h2, h3, h4⟩ := h
  have hs := hb.size
  refine ⟨by omega, (hb.cell h0).trans h1, fun k => ?_, h3, h4⟩
  obtain ⟨a, b, c, d, e, f, g⟩ := h2 k
  exact ⟨(hb.cell h0).trans a, b, c, (hb.cell g).trans d, e.below hb fun x hx => (f x hx).2, fun x hx => ⟨(f x hx).1.below hb (f x hx).2, by have := (f x hx).2; omega⟩, by omega⟩
theorem find_ch {tb ks g n cap H : Nat} {l : List En} (K N : Int) (S : ByteArray) (O : Int) {w : World} (h : Ch w tb ks g n cap H l) :
    Calls Tryd.prog 49 #[.pointer (some ⟨tb, 0, none⟩), .agg #[.int .i64 K, .int .u64 N, .string S, .int .i64 O], .int .u64 (H : Int)] w fun e w' => e = .returned (hd (seek K N S O H l)) ∧ Below w.heap.size w w' :=
  find_any tb g n cap H K N S O ks l w h.1 h.2.1 h.2.2.1 h.2.2.2.1 h.2.2.2.2
theorem seek_sub {K N : Int} {S : ByteArray} {O : Int} {H : Nat} : ∀ {l : List En} {e : En}, e ∈ seek K N S O H l → e ∈ l
  | [], _, h => h
  | x :: l, e, h => by
    rw [seek] at h
    split at h
    · exact h
    · exact List.mem_cons_of_mem _ (seek_sub h)

theorem set40 {B b i0 i1 i2 i3 : Nat} {W w1 : World} (h : Below B W w1) (hb : B ≤ b) (v0 v1 v2 v3 : Value) :
    Below B W ((((w1.setCell ⟨b, i0, none⟩ v0).setCell ⟨b, i1, none⟩ v1).setCell ⟨b, i2, none⟩ v2).setCell ⟨b, i3, none⟩ v3) :=
  (((h.setCell (p := ⟨b, i0, none⟩) hb _).setCell (p := ⟨b, i1, none⟩) hb _).setCell (p := ⟨b, i2, none⟩) hb _).setCell (p := ⟨b, i3, none⟩) hb _

set_option maxHeartbeats 2000000 in
theorem get_any (tb ks g n cap H : Nat) (l : List En) (K N : Int) (S : ByteArray) (O : Int) (w : World) (h : Ch w tb ks g n cap H l) :
    Calls Tryd.prog 36 #[.pointer (some ⟨tb, 0, none⟩), .agg #[.int .i64 K, .int .u64 N, .string S, .int .i64 O], .int .u64 (H : Int)] w fun e w' => e = .returned (valOf (seek K N S O H l)) ∧ Below w.heap.size w w' := by
  have hb0 : Below w.heap.size w ((w.alloc (.cells #[.int .i64 K, .int .u64 N, .string S, .int .i64 O] 35)).alloc (.cells #[.int .i64 0, .int .u64 0, .string ⟨#[]⟩, .int .i64 0] 35)) := ((Below.refl _ _).alloc (Nat.le_refl _) _).alloc (by simp) _
  have HF := find_ch K N S O (h.below hb0)
  have HE : Hid (∀ e ∈ seek K N S O H l, EnC w e ∧ e.b < w.heap.size) := by
    intro e he
    by_cases k0 : ks = 0
    · rw [h.2.2.2.1 k0] at he; exact absurd he (by simp [seek])
    · exact (h.2.2.1 (by omega)).2.2.2.2.2.1 e (seek_sub he)
  generalize seek K N S O H l = r at *
  have HB : Hid (Below w.heap.size w ((w.alloc (.cells #[.int .i64 K, .int .u64 N, .string S, .int .i64 O] 35)).alloc (.cells #[.int .i64 0, .int .u64 0, .string ⟨#[]⟩, .int .i64 0] 35))) := hb0
  clear h hb0
  go_enter Tryd.func36, Tryd.ntmps36
  go_wp2_with fail
  refine HF.mono ?_
  rintro e w1 ⟨rfl, hb1⟩
  have hc : ∀ o, w1.cell? ⟨w.heap.size + 1, o, none⟩ = ((w.alloc (.cells #[.int .i64 K, .int .u64 N, .string S, .int .i64 O] 35)).alloc (.cells #[.int .i64 0, .int .u64 0, .string ⟨#[]⟩, .int .i64 0] 35)).cell? ⟨w.heap.size + 1, o, none⟩ := fun o => hb1.cell (by simp)
  have z0 : w1.cell? ⟨w.heap.size + 1, 0, none⟩ = some (.int .i64 0) := by rw [hc]; go_simp
  have z1 : w1.cell? ⟨w.heap.size + 1, 1, none⟩ = some (.int .u64 0) := by rw [hc]; go_simp
  have z2 : w1.cell? ⟨w.heap.size + 1, 2, none⟩ = some (.string ⟨#[]⟩) := by rw [hc]; go_simp
  have z3 : w1.cell? ⟨w.heap.size + 1, 3, none⟩ = some (.int .i64 0) := by rw [hc]; go_simp
  have hf : ∀ o, w1.frozen? ⟨w.heap.size + 1, o, none⟩ = false := fun o => (hb1.frozen (by simp)).trans (by go_simp)
  have HB1 : Hid (Below w.heap.size w w1) := HB.out.trans (hb1.mono (by simp; omega))
  clear HF hb1 hc HB
  rcases r with _ | ⟨e, r⟩
  · rw [hd]
    clear HE
    go_wp2
    exact bodyPost_ret (v := valOf []) (by simp [results, Tryd.results36, go_sem, valOf, vl4, z0, z1, z2, z3]) rfl ⟨rfl, set40 HB1.out (by omega) _ _ _ _⟩
  · rw [hd]
    obtain ⟨ec, el⟩ := HE.out e List.mem_cons_self
    obtain ⟨_, _, _, _, e4, e5, e6, e7, _⟩ := ec.below HB1.out el
    clear HE ec
    go_wp2
    exact bodyPost_ret (v := valOf (e :: r)) (by simp [results, Tryd.results36, go_sem, valOf, vl4, z0, z1, z2, z3]) rfl ⟨rfl, set40 HB1.out (by omega) _ _ _ _⟩
end Go.Proofs.YtjkedocppbcncaaDoor

/-
  Plain mathematics of 64-bit numbers: how the words of the double format are ordered. No Go in sight.
-/
namespace Go.Proofs.YtjkedocppbcncaaDoor.Flo
set_option maxRecDepth 100000

/-- The size of a word, without its sign. -/
def mag (a : Int) : Int := if 9223372036854775808 ≤ a then a - 9223372036854775808 else a
/-- A word as a place on one line: below nought with the sign. -/
def sv (a : Int) : Int := if 9223372036854775808 ≤ a then 9223372036854775808 - a else a
def U64 (a : Int) : Prop := 0 ≤ a ∧ a < 18446744073709551616
def nanB (a : Int) : Bool := decide (9218868437227405312 < mag a)
def lessB (a b : Int) : Bool := !nanB a && (!nanB b && decide (sv a < sv b))
def equalB (a b : Int) : Bool := !nanB a && (!nanB b && decide (sv a = sv b))

theorem cmp_congr {x y x' y' : Int} (h1 : x < y ↔ x' < y') (h2 : x = y ↔ x' = y') : compare x y = compare x' y' := by
  simp only [compare, compareOfLessAndEq, h1, h2]

/-- What a rung stands for, in units of the least one. -/
def M (r : Nat) : Nat := if r < 4503599627370496 then r else (4503599627370496 + r % 4503599627370496) * 2 ^ (r / 4503599627370496 - 1)

theorem M_mono {r s : Nat} (h : r < s) : M r < M s := by
  unfold M
  by_cases h1 : r < 4503599627370496
  · by_cases h2 : s < 4503599627370496
    · simp only [h1, h2, if_true]; exact h
    · simp only [h1, h2, if_true, if_false]
      have hp : 0 < 2 ^ (s / 4503599627370496 - 1) := Nat.two_pow_pos _
      calc r < 4503599627370496 := h1
        _ ≤ (4503599627370496 + s % 4503599627370496) * 1 := by omega
        _ ≤ _ := Nat.mul_le_mul_left _ hp
  · have h2 : ¬ s < 4503599627370496 := by omega
    simp only [h1, h2, if_false]
    have hq : r / 4503599627370496 ≤ s / 4503599627370496 := Nat.div_le_div_right (by omega)
    by_cases he : r / 4503599627370496 = s / 4503599627370496
    · rw [he]
      exact Nat.mul_lt_mul_of_pos_right (by omega) (Nat.two_pow_pos _)
    · have e : 2 ^ (r / 4503599627370496) = 2 * 2 ^ (r / 4503599627370496 - 1) := by
        rw [← Nat.pow_succ']; congr 1; omega
      have hle : 2 ^ (r / 4503599627370496) ≤ 2 ^ (s / 4503599627370496 - 1) := Nat.pow_le_pow_right (by decide) (by omega)
      calc (4503599627370496 + r % 4503599627370496) * 2 ^ (r / 4503599627370496 - 1)
          < (2 * 4503599627370496) * 2 ^ (r / 4503599627370496 - 1) := Nat.mul_lt_mul_of_pos_right (by omega) (Nat.two_pow_pos _)
        _ = 4503599627370496 * 2 ^ (r / 4503599627370496) := by rw [e, Nat.mul_comm 2 4503599627370496, Nat.mul_assoc]
        _ ≤ 4503599627370496 * 2 ^ (s / 4503599627370496 - 1) := Nat.mul_le_mul_left _ hle
        _ ≤ _ := Nat.mul_le_mul_right _ (by omega)

theorem M_lt_iff {r s : Nat} : M r < M s ↔ r < s := by
  constructor
  · intro h
    by_cases h1 : r < s
    · exact h1
    · exfalso
      by_cases h2 : r = s
      · subst h2; omega
      · have := M_mono (r := s) (s := r) (by omega); omega
  · exact M_mono
theorem M_inj {r s : Nat} : M r = M s ↔ r = s := by
  constructor
  · intro h
    have h1 := @M_lt_iff r s
    have h2 := @M_lt_iff s r
    omega
  · intro h; rw [h]
theorem M_zero : M 0 = 0 := by decide

/-- A rung below infinity is read as a number that stands for what M says. -/
theorem read_number (a : Nat) (hr : a % 9223372036854775808 < 9218868437227405312) :
    ∃ m p, 0 ≤ p + 1074 ∧ m * 2 ^ (p + 1074).toNat = M (a % 9223372036854775808) ∧ Ieee.double.read a = .number (a / 9223372036854775808 % 2 == 1) m p := by
  have e1 : Ieee.double.signWeight = 9223372036854775808 := by decide
  have e2 : Ieee.double.binade = 4503599627370496 := by decide
  have e3 : Ieee.double.infRung = 9218868437227405312 := by decide
  have e4 : Ieee.double.leastPlace = -1074 := by decide
  unfold Ieee.Format.read
  simp only [e1, e2, e3, e4]
  generalize a % 9223372036854775808 = r at *
  unfold M
  by_cases h1 : r < 4503599627370496
  · simp only [h1, if_true]
    exact ⟨r, -1074, by omega, by simp, rfl⟩
  · simp only [h1, hr, if_true, if_false]
    refine ⟨_, _, ?_, ?_, rfl⟩
    · omega
    · congr 2; omega

theorem read_inf (a : Nat) (hr : a % 9223372036854775808 = 9218868437227405312) :
    Ieee.double.read a = .infinity (a / 9223372036854775808 % 2 == 1) := by
  have e1 : Ieee.double.signWeight = 9223372036854775808 := by decide
  have e2 : Ieee.double.binade = 4503599627370496 := by decide
  have e3 : Ieee.double.infRung = 9218868437227405312 := by decide
  unfold Ieee.Format.read
  simp only [e1, e2, e3, hr]
  simp

theorem read_nan (a : Nat) (hr : 9218868437227405312 < a % 9223372036854775808) :
    ∃ f, Ieee.double.read a = .nan (a / 9223372036854775808 % 2 == 1) f := by
  have e1 : Ieee.double.signWeight = 9223372036854775808 := by decide
  have e2 : Ieee.double.binade = 4503599627370496 := by decide
  have e3 : Ieee.double.infRung = 9218868437227405312 := by decide
  unfold Ieee.Format.read
  simp only [e1, e2, e3]
  generalize a % 9223372036854775808 = r at *
  exact ⟨r - 9218868437227405312, by rw [if_neg (by omega), if_neg (by omega), if_neg (by omega)]⟩

/-- The number of a sign and a size. -/
def sz (s : Bool) (n : Nat) : Int := if s then -(n : Int) else n

theorem signed_scale (s : Bool) (m k c : Nat) : Ieee.signed s m k * ((2 ^ c : Nat) : Int) = sz s (m * 2 ^ (k + c)) := by
  unfold Ieee.signed sz
  cases s
  · simp only [Nat.shiftLeft_eq, Bool.false_eq_true, if_false, ← Int.natCast_mul]
    rw [Nat.mul_assoc, ← Nat.pow_add]
  · simp only [Nat.shiftLeft_eq, if_true, Int.neg_mul, ← Int.natCast_mul]
    rw [Nat.mul_assoc, ← Nat.pow_add]

theorem cmp_scale {x y : Int} {c : Nat} (hc : 0 < c) : compare x y = compare (x * (c : Int)) (y * (c : Int)) := by
  have h : (0 : Int) < (c : Int) := by omega
  refine cmp_congr ⟨fun k => Int.mul_lt_mul_of_pos_right k h, fun k => Int.lt_of_mul_lt_mul_right k (by omega)⟩ ⟨fun k => by rw [k], fun k => Int.eq_of_mul_eq_mul_right (by omega) k⟩

theorem cmp_sz (s t : Bool) (r u : Nat) : compare (sz s (M r)) (sz t (M u)) = compare (sz s r) (sz t u) := by
  have h1 := @M_lt_iff r u
  have h2 := @M_lt_iff u r
  have h0 := @M_lt_iff 0 r
  have h3 := @M_lt_iff 0 u
  rw [M_zero] at h0 h3
  apply cmp_congr
  · unfold sz; cases s <;> cases t <;> simp only [Bool.false_eq_true, if_false, if_true] <;> omega
  · unfold sz; cases s <;> cases t <;> simp only [Bool.false_eq_true, if_false, if_true] <;> omega

theorem order_numbers (s t : Bool) (m n : Nat) (i j : Int) (hi : 0 ≤ i + 1074) (hj : 0 ≤ j + 1074) :
    Ieee.Datum.order (.number s m i) (.number t n j) = some (compare (sz s (m * 2 ^ (i + 1074).toNat)) (sz t (n * 2 ^ (j + 1074).toNat))) := by
  simp only [Ieee.Datum.order]
  generalize hb : min i j = b
  have hb0 : 0 ≤ b + 1074 := by omega
  rw [cmp_scale (Nat.two_pow_pos (b + 1074).toNat), signed_scale, signed_scale]
  rw [show (i - b).toNat + (b + 1074).toNat = (i + 1074).toNat by omega, show (j - b).toNat + (b + 1074).toNat = (j + 1074).toNat by omega]

/-- How two words stand to one another. -/
theorem order_eq {a b : Int} (ha : U64 a) (hb : U64 b) :
    FloatKind.f64.format.order a.toNat b.toNat = if nanB a then none else if nanB b then none else some (compare (sv a) (sv b)) := by
  show Ieee.double.order a.toNat b.toNat = _
  obtain ⟨x, rfl⟩ := Int.eq_ofNat_of_zero_le ha.1
  obtain ⟨y, rfl⟩ := Int.eq_ofNat_of_zero_le hb.1
  have hx : x < 18446744073709551616 := by have := ha.2; omega
  have hy : y < 18446744073709551616 := by have := hb.2; omega
  clear ha hb
  have mg : ∀ z : Nat, z < 18446744073709551616 → mag (z : Int) = ((z % 9223372036854775808 : Nat) : Int) := by
    intro z hz; unfold mag; split <;> omega
  have sg : ∀ z : Nat, z < 18446744073709551616 → sv (z : Int) = sz (z / 9223372036854775808 % 2 == 1) (z % 9223372036854775808) := by
    intro z hz
    unfold sv sz
    by_cases h : 9223372036854775808 ≤ z
    · have e : (z / 9223372036854775808 % 2 == 1) = true := by rw [beq_iff_eq]; omega
      rw [e, if_pos (by omega), if_pos rfl]; omega
    · have e : (z / 9223372036854775808 % 2 == 1) = false := by rw [beq_eq_false_iff_ne]; omega
      rw [e, if_neg (by omega)]; simp only [Bool.false_eq_true, if_false]; omega
  unfold nanB Ieee.Format.order
  rw [mg x hx, mg y hy, sg x hx, sg y hy]
  simp only [Int.toNat_natCast, decide_eq_true_eq]
  rcases Nat.lt_trichotomy (x % 9223372036854775808) 9218868437227405312 with hx1 | hx1 | hx1
  · obtain ⟨m, i, hi, em, ex⟩ := read_number x hx1
    rw [ex, if_neg (by omega)]
    generalize (x / 9223372036854775808 % 2 == 1) = s
    generalize x % 9223372036854775808 = r at *
    rcases Nat.lt_trichotomy (y % 9223372036854775808) 9218868437227405312 with hy1 | hy1 | hy1
    · obtain ⟨n, j, hj, en, ey⟩ := read_number y hy1
      rw [ey, if_neg (by omega), order_numbers _ _ _ _ _ _ hi hj, em, en, cmp_sz]
    · rw [read_inf y hy1, if_neg (by omega), hy1]
      generalize (y / 9223372036854775808 % 2 == 1) = t
      simp only [Ieee.Datum.order, Option.some.injEq]
      cases t
      · exact (cmp_congr (x' := 0) (y' := 1) (by unfold sz; cases s <;> simp <;> omega) (by unfold sz; cases s <;> simp <;> omega)).symm
      · exact (cmp_congr (x' := 1) (y' := 0) (by unfold sz; cases s <;> simp <;> omega) (by unfold sz; cases s <;> simp <;> omega)).symm
    · obtain ⟨f, ey⟩ := read_nan y hy1
      rw [ey, if_pos (by omega)]
      rfl
  · rw [read_inf x hx1, if_neg (by omega), hx1]
    generalize (x / 9223372036854775808 % 2 == 1) = s
    rcases Nat.lt_trichotomy (y % 9223372036854775808) 9218868437227405312 with hy1 | hy1 | hy1
    · obtain ⟨n, j, hj, en, ey⟩ := read_number y hy1
      rw [ey, if_neg (by omega)]
      generalize (y / 9223372036854775808 % 2 == 1) = t
      generalize y % 9223372036854775808 = u at *
      simp only [Ieee.Datum.order, Option.some.injEq]
      cases s
      · exact (cmp_congr (x' := 1) (y' := 0) (by unfold sz; cases t <;> simp <;> omega) (by unfold sz; cases t <;> simp <;> omega)).symm
      · exact (cmp_congr (x' := 0) (y' := 1) (by unfold sz; cases t <;> simp <;> omega) (by unfold sz; cases t <;> simp <;> omega)).symm
    · rw [read_inf y hy1, if_neg (by omega), hy1]
      generalize (y / 9223372036854775808 % 2 == 1) = t
      cases s <;> cases t <;> decide
    · obtain ⟨f, ey⟩ := read_nan y hy1
      rw [ey, if_pos (by omega)]
      rfl
  · obtain ⟨f, ex⟩ := read_nan x hx1
    rw [ex, if_pos (by omega)]
    rfl

theorem cmp_lt (x y : Int) : (compare x y == .lt) = decide (x < y) := by
  simp only [compare, compareOfLessAndEq]; by_cases h : x < y <;> by_cases h2 : x = y <;> simp [h, h2]
theorem cmp_gt (x y : Int) : (compare x y == .gt) = decide (y < x) := by
  simp only [compare, compareOfLessAndEq]; by_cases h : x < y <;> by_cases h2 : x = y <;> simp [h, h2] <;> omega
theorem cmp_eq (x y : Int) : (compare x y == .eq) = decide (x = y) := by
  simp only [compare, compareOfLessAndEq]; by_cases h : x < y <;> by_cases h2 : x = y <;> simp [h, h2] <;> omega

theorem lt_test {a b : Int} (ha : U64 a) (hb : U64 b) : (FloatKind.f64.format.order a.toNat b.toNat == some .lt) = lessB a b := by
  rw [order_eq ha hb]
  unfold lessB
  cases nanB a <;> cases nanB b <;> simp [cmp_lt]
theorem gt_test {a b : Int} (ha : U64 a) (hb : U64 b) : (FloatKind.f64.format.order a.toNat b.toNat == some .gt) = lessB b a := by
  rw [order_eq ha hb]
  unfold lessB
  cases nanB a <;> cases nanB b <;> simp [cmp_gt]
theorem eq_test {a b : Int} (ha : U64 a) (hb : U64 b) : (FloatKind.f64.format.order a.toNat b.toNat == some .eq) = equalB a b := by
  rw [order_eq ha hb]
  unfold equalB
  cases nanB a <;> cases nanB b <;> simp [cmp_eq]
theorem ne_test {a b : Int} (ha : U64 a) (hb : U64 b) : (FloatKind.f64.format.order a.toNat b.toNat != some .eq) = !equalB a b := by
  unfold bne; rw [eq_test ha hb]
theorem equalB_self (a : Int) : equalB a a = !nanB a := by
  unfold equalB; cases nanB a <;> simp

end Go.Proofs.YtjkedocppbcncaaDoor.Flo

/-
  What the small functions of layer 1 answer, as plain functions of integers.
-/
namespace Go.Proofs.YtjkedocppbcncaaDoor.Flo
set_option maxRecDepth 100000

def kindZ (a : Int) : Int := if 9218868437227405312 < mag a then 4 else if mag a = 0 then 0 else if mag a = 9218868437227405312 then 3 else if mag a < 4503599627370496 then 1 else 2
def belowB (a : Int) : Bool := decide (9223372036854775808 ≤ a)
def canonZ (a : Int) : Int := if nanB a then 9221120237041090560 else a
def negZ (a : Int) : Int := if nanB a then 9221120237041090560 else if 9223372036854775808 ≤ a then a - 9223372036854775808 else a + 9223372036854775808
def absZ (a : Int) : Int := if nanB a then 9221120237041090560 else mag a
def beforeB (a b : Int) : Bool := if nanB a then false else if nanB b then true else if sv a = sv b then belowB a && !belowB b else decide (sv a < sv b)

theorem u64_toNat {a : Int} (h : U64 a) : a.toNat < 18446744073709551616 := by have := h.1; have := h.2; omega

theorem and_sign (a : Int) (h : U64 a) : bits .and .u64 a 9223372036854775808 = if 9223372036854775808 ≤ a then 9223372036854775808 else 0 := by
  obtain ⟨h0, h1⟩ := h
  rw [u64_and a _ h0 h1 (by decide) (by decide)]
  have e : (9223372036854775808 : Int).toNat = 2 ^ 63 := by decide
  rw [e, nat_bit 63 a.toNat]
  have : a.toNat / 2 ^ 63 = if 9223372036854775808 ≤ a then 1 else 0 := by
    split <;> omega
  rw [this]
  split <;> decide

theorem xor_sign (a : Int) (h : U64 a) : bits .xor .u64 a 9223372036854775808 = if 9223372036854775808 ≤ a then a - 9223372036854775808 else a + 9223372036854775808 := by
  obtain ⟨h0, h1⟩ := h
  rw [u64_xor a _ h0 h1 (by decide) (by decide)]
  have e : (9223372036854775808 : Int).toNat = 2 ^ 63 := by decide
  rw [e]
  obtain ⟨x, rfl⟩ := Int.eq_ofNat_of_zero_le h0
  simp only [Int.toNat_natCast]
  have hx : x < 2 ^ 64 := by omega
  have key : x ^^^ 2 ^ 63 = if 2 ^ 63 ≤ x then x - 2 ^ 63 else x + 2 ^ 63 := by
    split
    · rename_i hge
      apply Nat.eq_of_testBit_eq
      intro i
      obtain ⟨y, rfl⟩ := Nat.exists_eq_add_of_le hge
      have hy : y < 2 ^ 63 := by omega
      rw [Nat.add_sub_cancel_left, Nat.testBit_xor, Nat.testBit_two_pow]
      by_cases hi : 63 = i
      · subst hi
        rw [Nat.testBit_two_pow_add_eq, Nat.testBit_lt_two_pow hy]
        simp
      · rw [show decide (63 = i) = false from decide_eq_false hi, Bool.xor_false]
        rcases Nat.lt_or_gt_of_ne hi with h | h
        · rw [Nat.testBit_lt_two_pow (i := i) (Nat.lt_of_lt_of_le hx (Nat.pow_le_pow_right (by decide) h)), Nat.testBit_lt_two_pow (Nat.lt_of_lt_of_le hy (Nat.pow_le_pow_right (by decide) (by omega)))]
        · rw [Nat.testBit_two_pow_add_gt h]
    · rename_i hlt
      apply Nat.eq_of_testBit_eq
      intro i
      have hy : x < 2 ^ 63 := by omega
      rw [Nat.add_comm, Nat.testBit_xor, Nat.testBit_two_pow]
      by_cases hi : 63 = i
      · subst hi
        rw [Nat.testBit_two_pow_add_eq, Nat.testBit_lt_two_pow hy]
        simp
      · rw [show decide (63 = i) = false from decide_eq_false hi, Bool.xor_false]
        rcases Nat.lt_or_gt_of_ne hi with h | h
        · rw [Nat.testBit_lt_two_pow (Nat.lt_of_lt_of_le hy (Nat.pow_le_pow_right (by decide) (by omega))), Nat.testBit_lt_two_pow (i := i) (Nat.lt_of_lt_of_le (show 2 ^ 63 + x < 2 ^ 64 by omega) (Nat.pow_le_pow_right (by decide) h))]
        · rw [Nat.testBit_two_pow_add_gt h]
  rw [key]
  split <;> split <;> omega

theorem andNot_sign (a : Int) (h : U64 a) : bits .andNot .u64 a 9223372036854775808 = mag a := by
  obtain ⟨h0, h1⟩ := h
  rw [u64_andNot a _ h0 h1 (by decide) (by decide)]
  have e : 18446744073709551615 - (9223372036854775808 : Int).toNat = 2 ^ 63 - 1 := by decide
  rw [e, Nat.and_two_pow_sub_one_eq_mod]
  unfold mag
  split <;> omega

theorem negZ_u64 {a : Int} (h : U64 a) : U64 (negZ a) := by
  obtain ⟨h0, h1⟩ := h
  unfold negZ U64
  split
  · decide
  · split <;> omega
theorem mag_u64 {a : Int} (h : U64 a) : U64 (mag a) := by
  obtain ⟨h0, h1⟩ := h
  unfold mag U64
  split <;> omega
theorem absZ_u64 {a : Int} (h : U64 a) : U64 (absZ a) := by
  unfold absZ
  split
  · exact ⟨by decide, by decide⟩
  · exact mag_u64 h

end Go.Proofs.YtjkedocppbcncaaDoor.Flo

/-
  Plain mathematics of rounding: the nearest number, in units of 2 to the power -1374.
-/
namespace Go.Proofs.YtjkedocppbcncaaDoor.Flo
set_option maxRecDepth 100000

/-- v by 2 ^ d, to the nearest, ties to even. -/
def rne (v d : Nat) : Nat := v / 2 ^ d + (if 2 ^ d < 2 * (v % 2 ^ d) ∨ (2 ^ d = 2 * (v % 2 ^ d) ∧ v / 2 ^ d % 2 = 1) then 1 else 0)
def lowest (g v : Nat) : Nat := if v < 2 ^ (g + 53) then g else v.log2 - 52
/-- The rung nearest to v units of 2 to the power (-1074 - g). -/
def rung (g v : Nat) : Nat := min ((lowest g v - g) * 4503599627370496 + rne v (lowest g v)) 9218868437227405312

theorem rne_mono {v u : Nat} (d : Nat) (h : v ≤ u) : rne v d ≤ rne u d := by
  have hp : 0 < 2 ^ d := Nat.two_pow_pos d
  have hq : v / 2 ^ d ≤ u / 2 ^ d := Nat.div_le_div_right h
  have ev := Nat.div_add_mod v (2 ^ d)
  have eu := Nat.div_add_mod u (2 ^ d)
  unfold rne
  generalize v / 2 ^ d = q at *
  generalize u / 2 ^ d = s at *
  generalize v % 2 ^ d = r at *
  generalize u % 2 ^ d = t at *
  by_cases e : q = s
  · subst e
    have hr : r ≤ t := by omega
    split <;> split <;> omega
  · split <;> split <;> omega

theorem rne_le {v d : Nat} (h : v < 2 ^ (d + 53)) : rne v d ≤ 9007199254740992 := by
  have : v / 2 ^ d < 2 ^ 53 := (Nat.div_lt_iff_lt_mul (Nat.two_pow_pos d)).2 (by rw [← Nat.pow_add, Nat.add_comm]; exact h)
  unfold rne
  split <;> omega
theorem rne_ge {v d : Nat} (h : 2 ^ (d + 52) ≤ v) : 4503599627370496 ≤ rne v d := by
  have : 2 ^ 52 ≤ v / 2 ^ d := (Nat.le_div_iff_mul_le (Nat.two_pow_pos d)).2 (by rw [← Nat.pow_add, Nat.add_comm]; exact h)
  unfold rne
  split <;> omega

theorem rne_scale (v d s : Nat) : rne (v * 2 ^ s) (d + s) = rne v d := by
  have hs : 0 < 2 ^ s := Nat.two_pow_pos s
  unfold rne
  rw [Nat.pow_add, Nat.mul_div_mul_right _ _ hs, Nat.mul_mod_mul_right]
  have e1 : 2 ^ d * 2 ^ s < 2 * (v % 2 ^ d * 2 ^ s) ↔ 2 ^ d < 2 * (v % 2 ^ d) := by
    rw [← Nat.mul_assoc]
    exact Nat.mul_lt_mul_right hs
  have e2 : 2 ^ d * 2 ^ s = 2 * (v % 2 ^ d * 2 ^ s) ↔ 2 ^ d = 2 * (v % 2 ^ d) := by
    rw [← Nat.mul_assoc]
    exact ⟨fun k => Nat.eq_of_mul_eq_mul_right hs k, fun k => congrArg (· * 2 ^ s) k⟩
  simp only [e1, e2]
theorem rne_exact (v d : Nat) : rne (v * 2 ^ d) d = v := by
  have h := rne_scale v 0 d
  rw [Nat.zero_add] at h
  rw [h]
  unfold rne
  simp [Nat.mod_one]
theorem rne_small {v d : Nat} (h : 2 * v < 2 ^ d) : rne v d = 0 := by
  unfold rne
  rw [Nat.div_eq_of_lt (by omega), Nat.mod_eq_of_lt (by omega), if_neg (by omega)]

theorem log2_bounds {v : Nat} (h : v ≠ 0) : 2 ^ v.log2 ≤ v ∧ v < 2 ^ (v.log2 + 1) := ⟨Nat.log2_self_le h, Nat.lt_log2_self⟩
theorem log2_of {v k : Nat} (h1 : 2 ^ k ≤ v) (h2 : v < 2 ^ (k + 1)) : v.log2 = k :=
  (Nat.log2_eq_iff (by have := Nat.two_pow_pos k; omega)).2 ⟨h1, h2⟩

theorem lowest_low {g v : Nat} (h : v < 2 ^ (g + 53)) : lowest g v = g := if_pos h
theorem lowest_high {g v d : Nat} (hd : g < d) (h1 : 2 ^ (d + 52) ≤ v) (h2 : v < 2 ^ (d + 53)) : lowest g v = d := by
  have h3 : 2 ^ (g + 53) ≤ 2 ^ (d + 52) := Nat.pow_le_pow_right (by decide) (by omega)
  unfold lowest
  rw [if_neg (by omega), log2_of h1 h2]
  omega

/-- Where the lowest digit that is kept lies. -/
theorem lowest_spec (g v : Nat) : g ≤ lowest g v ∧ v < 2 ^ (lowest g v + 53) ∧ (g < lowest g v → 2 ^ (lowest g v + 52) ≤ v) := by
  unfold lowest
  split
  · rename_i h
    exact ⟨Nat.le_refl _, h, fun k => absurd k (Nat.lt_irrefl _)⟩
  · rename_i h
    have hv : v ≠ 0 := by intro e; subst e; exact h (Nat.two_pow_pos _)
    obtain ⟨b1, b2⟩ := log2_bounds hv
    have hl : g + 53 ≤ v.log2 := by
      rcases Nat.lt_or_ge v.log2 (g + 53) with k | k
      · exfalso; exact h (Nat.lt_of_lt_of_le b2 (Nat.pow_le_pow_right (by decide) k))
      · exact k
    refine ⟨by omega, ?_, fun _ => ?_⟩
    · rw [show v.log2 - 52 + 53 = v.log2 + 1 by omega]; exact b2
    · rw [show v.log2 - 52 + 52 = v.log2 by omega]; exact b1

theorem ladder (g l m a b : Nat) (h1 : l = m → a ≤ b) (h2 : l < m → a ≤ 9007199254740992 ∧ 4503599627370496 ≤ b) (h3 : l ≤ m) (h4 : g ≤ l) :
    min ((l - g) * 4503599627370496 + a) 9218868437227405312 ≤ min ((m - g) * 4503599627370496 + b) 9218868437227405312 := by
  rcases Nat.lt_or_ge l m with k | k
  · obtain ⟨k1, k2⟩ := h2 k
    omega
  · have e : l = m := by omega
    have := h1 e
    subst e
    omega
theorem rung_mono (g : Nat) {v u : Nat} (h : v ≤ u) : rung g v ≤ rung g u := by
  obtain ⟨a1, a2, a3⟩ := lowest_spec g v
  obtain ⟨b1, b2, b3⟩ := lowest_spec g u
  unfold rung
  refine ladder g _ _ _ _ (fun k => ?_) (fun k => ⟨rne_le a2, rne_ge (b3 (Nat.lt_of_le_of_lt a1 k))⟩) ?_ a1
  · rw [k]
    exact rne_mono _ h
  · rcases Nat.lt_or_ge (lowest g u) (lowest g v) with k | k
    · exfalso
      have h1 := a3 (Nat.lt_of_le_of_lt b1 k)
      have h2 : 2 ^ (lowest g u + 53) ≤ 2 ^ (lowest g v + 52) := Nat.pow_le_pow_right (by decide) (by generalize lowest g u = l at k ⊢; generalize lowest g v = m at k ⊢; omega)
      exact absurd (Nat.lt_of_lt_of_le b2 (Nat.le_trans h2 (Nat.le_trans h1 h))) (Nat.lt_irrefl _)
    · exact k
theorem rung_le (g v : Nat) : rung g v ≤ 9218868437227405312 := Nat.min_le_right _ _
/-- What lies far below the least number. -/
theorem rung_tiny {g v : Nat} (h : 2 * v ≤ 2 ^ g) : rung g v = 0 := by
  have hp : 2 ^ g < 2 ^ (g + 53) := Nat.pow_lt_pow_right (by decide) (by omega)
  have h0 := Nat.two_pow_pos g
  have e : lowest g v = g := lowest_low (by omega)
  unfold rung
  rw [e]
  have : rne v g = 0 := by
    unfold rne
    rw [Nat.div_eq_of_lt (by omega), Nat.mod_eq_of_lt (by omega)]
    simp only [Nat.zero_mod]
    rw [if_neg (by omega)]
  rw [this]
  omega
/-- What is too great. -/
theorem rung_huge {g v : Nat} (h : 2 ^ (g + 2098) ≤ v) : rung g v = 9218868437227405312 := by
  have e : rung g (2 ^ (g + 2098)) = 9218868437227405312 := by
    have l : lowest g (2 ^ (g + 2098)) = g + 2046 := lowest_high (by omega) (Nat.le_refl _) (Nat.pow_lt_pow_right (by decide) (by omega))
    have r : rne (2 ^ (g + 2098)) (g + 2046) = 4503599627370496 := by
      rw [show 2 ^ (g + 2098) = 4503599627370496 * 2 ^ (g + 2046) from by rw [show g + 2098 = 52 + (g + 2046) by omega, Nat.pow_add], rne_exact]
    unfold rung
    rw [l, r]
    omega
  have h1 := rung_mono g h
  have h2 := rung_le g v
  omega
/-- Units that are finer by a power of two. -/
theorem rung_scale (g v s : Nat) : rung (g + s) (v * 2 ^ s) = rung g v := by
  obtain ⟨a1, a2, a3⟩ := lowest_spec g v
  have e : lowest (g + s) (v * 2 ^ s) = lowest g v + s := by
    have hs := Nat.two_pow_pos s
    have l2 : v * 2 ^ s < 2 ^ (lowest g v + s + 53) := by
      rw [show lowest g v + s + 53 = lowest g v + 53 + s by omega, Nat.pow_add]; exact Nat.mul_lt_mul_of_pos_right a2 hs
    rcases Nat.lt_or_ge g (lowest g v) with k | k
    · refine lowest_high (by omega) ?_ l2
      rw [show lowest g v + s + 52 = lowest g v + 52 + s by omega, Nat.pow_add]; exact Nat.mul_le_mul_right _ (a3 k)
    · have : lowest g v = g := by omega
      rw [this] at l2 ⊢
      exact lowest_low l2
  unfold rung
  rw [e, rne_scale, show lowest g v + s - (g + s) = lowest g v - g by omega]

/-! The length of a number in bits. -/
theorem bitLen_log : ∀ x : Nat, x ≠ 0 → x < 2 ^ 64 → Lib.bitLen x = x.log2 + 1 := by
  intro x
  induction x using Nat.strongRecOn with
  | _ x ih =>
    intro h0 h1
    rw [Lib.bitLen_half x h0 h1, Nat.log2_def]
    by_cases h : 2 ≤ x
    · rw [if_pos h, ih (x / 2) (by omega) (by omega) (by omega)]
      omega
    · have : x = 1 := by omega
      subst this
      decide
theorem bitLen_bounds {x : Nat} (h0 : x ≠ 0) (h1 : x < 18446744073709551616) : 1 ≤ Lib.bitLen x ∧ Lib.bitLen x ≤ 64 ∧ 2 ^ (Lib.bitLen x - 1) ≤ x ∧ x < 2 ^ Lib.bitLen x := by
  have e := bitLen_log x h0 (by omega)
  obtain ⟨b1, b2⟩ := log2_bounds h0
  have : x.log2 < 64 := (Nat.log2_lt h0).2 (by omega)
  rw [e]
  exact ⟨by omega, by omega, by simpa using b1, b2⟩

/-! What the code reckons. -/
def roundedN (f d : Nat) (more : Bool) : Nat := if 64 < d then 0 else f / 2 ^ d + (if 2 ^ (d - 1) < f % 2 ^ d ∨ (f % 2 ^ d = 2 ^ (d - 1) ∧ (more = true ∨ f / 2 ^ d % 2 = 1)) then 1 else 0)

theorem roundedN_false {f d : Nat} (hf : f < 2 ^ 64) (hd : 1 ≤ d) : roundedN f d false = rne f d := by
  unfold roundedN
  split
  · rename_i h
    refine (rne_small ?_).symm
    have : 2 ^ 65 ≤ 2 ^ d := Nat.pow_le_pow_right (by decide) h
    omega
  · obtain ⟨k, rfl⟩ := Nat.exists_eq_add_of_le hd
    unfold rne
    rw [show 1 + k - 1 = k by omega, Nat.add_comm 1 k]
    have e : 2 ^ (k + 1) = 2 * 2 ^ k := Nat.pow_succ'
    simp only [Bool.false_eq_true, false_or]
    have i1 : (2 ^ k < f % 2 ^ (k + 1)) ↔ 2 ^ (k + 1) < 2 * (f % 2 ^ (k + 1)) := by omega
    have i2 : (f % 2 ^ (k + 1) = 2 ^ k) ↔ 2 ^ (k + 1) = 2 * (f % 2 ^ (k + 1)) := by omega
    simp only [i1, i2]
theorem roundedN_true {f d : Nat} (hf : f < 2 ^ 64) (hd : 1 ≤ d) : roundedN f d true = rne (2 * f + 1) (d + 1) := by
  unfold roundedN
  split
  · rename_i h
    refine (rne_small ?_).symm
    have : 2 ^ 66 ≤ 2 ^ (d + 1) := Nat.pow_le_pow_right (by decide) (by omega)
    omega
  · obtain ⟨k, rfl⟩ := Nat.exists_eq_add_of_le hd
    unfold rne
    rw [show 1 + k - 1 = k by omega, Nat.add_comm 1 k]
    have e : 2 ^ (k + 1) = 2 * 2 ^ k := Nat.pow_succ'
    have e2 : 2 ^ (k + 1 + 1) = 2 * 2 ^ (k + 1) := Nat.pow_succ'
    have q : (2 * f + 1) / 2 ^ (k + 1 + 1) = f / 2 ^ (k + 1) := by
      rw [e2, ← Nat.div_div_eq_div_mul, show (2 * f + 1) / 2 = f by omega]
    have r : (2 * f + 1) % 2 ^ (k + 1 + 1) = 2 * (f % 2 ^ (k + 1)) + 1 := by
      have h1 := Nat.div_add_mod (2 * f + 1) (2 ^ (k + 1 + 1))
      have h2 := Nat.div_add_mod f (2 ^ (k + 1))
      rw [q, e2, Nat.mul_assoc] at h1
      rw [e2]
      omega
    rw [q, r]
    simp only [true_or, and_true]
    have i : (2 ^ k < f % 2 ^ (k + 1) ∨ f % 2 ^ (k + 1) = 2 ^ k) ↔ (2 ^ (k + 1 + 1) < 2 * (2 * (f % 2 ^ (k + 1)) + 1) ∨ (2 ^ (k + 1 + 1) = 2 * (2 * (f % 2 ^ (k + 1)) + 1) ∧ f / 2 ^ (k + 1) % 2 = 1)) := by
      have : 0 < 2 ^ k := Nat.two_pow_pos k
      generalize f / 2 ^ (k + 1) % 2 = z
      omega
    simp only [i]

end Go.Proofs.YtjkedocppbcncaaDoor.Flo
