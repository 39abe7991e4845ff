/-
  DecNear, DecNear2, DecParse, Val3, DigQuiet, HpHash
-/
import Derived.Deep.DeepCutAuto
import Derived.Test.YthmocdabakkfhaaGreatDoorRows
import Derived.WalkKit
import Derived.ProofKit
import Derived.OpenShut
import Derived.ShutString
import Derived.ChangeOld
import Derived.Below
import Derived.Deep.Light
import Derived.Laws.Closers25b
import Derived.Test.YthmocdabakkfhaaGreatDoorZ12

/-
  The landed nearest, walked; read of any text.
-/
namespace Go.Proofs.YthmocdabakkfhaaGreatDoor
set_option maxRecDepth 100000
open Go.RowKit Pt Flo Txt

end Go.Proofs.YthmocdabakkfhaaGreatDoor

/-
  The landed nearest and Parse, walked: the rung nearest to what a numeral says.
-/
namespace Go.Proofs.YthmocdabakkfhaaGreatDoor
set_option maxRecDepth 100000
open Go.RowKit Pt Flo Txt

/-- The exponents between which something is left. -/
def tc (x : Int) : Int := min (max x (-800)) 400
end Go.Proofs.YthmocdabakkfhaaGreatDoor

/-
  The landed Parse, walked: what is said of any text.
-/
namespace Go.Proofs.YthmocdabakkfhaaGreatDoor
set_option maxRecDepth 100000
open Go.RowKit Pt Flo Txt

/-- What Parse answers. -/
def parseW (l : List UInt8) : Nat × Nat :=
  if 400 < l.length then (0, 2) else
  match numL l with
  | none => (0, 4)
  | some (D, E) => (decN (dv D 0) E, 0)
end Go.Proofs.YthmocdabakkfhaaGreatDoor

/-
  Layer 8: the landed Key, Truth, Name, and lives, walked.
-/
namespace Go.Proofs.YthmocdabakkfhaaGreatDoor
set_option maxRecDepth 100000
open Go.RowKit Flo

theorem same_self {K N : Int} (S : ByteArray) (O : Int) (hN : U64 N) (h : nK K ≠ 0) : sameB (nK K) (nN K N) (nS K S) (nO K O) (nK K) (nN K N) (nS K S) (nO K O) = kok K N := by
  rw [Bool.eq_iff_iff, same_key (nN_u64 hN) (nN_u64 hN), kok_norm, nK_nK]
  constructor
  · rintro (⟨a, _⟩ | ⟨a, _⟩)
    · exact a
    · exact absurd a h
  · intro a
    exact Or.inl ⟨a, a, rfl, rfl, rfl, rfl⟩
theorem key_zero {K N : Int} (S : ByteArray) (O : Int) (h : kok K N = false) : yK K N = 0 ∧ yN K N = 0 ∧ yS K N S = ⟨#[]⟩ ∧ yO K N O = 0 := by
  unfold yK yN yS yO
  rw [h]
  exact ⟨rfl, rfl, rfl, rfl⟩
theorem key_some {K N : Int} (S : ByteArray) (O : Int) (h : kok K N = true) : yK K N = nK K ∧ yN K N = kN K N ∧ yS K N S = nS K S ∧ yO K N O = nO K O := by
  unfold yK yN yS yO
  rw [h]
  exact ⟨rfl, rfl, rfl, rfl⟩
theorem kN_abs {N : Int} (h : mag (nN 3 N) = 0) : absZ (nN 3 N) = 0 := by
  unfold absZ nanB
  rw [h]; rfl

set_option maxHeartbeats 4000000 in
theorem key_any (K N : Int) (S : ByteArray) (O : Int) (w : World) (hN : U64 N) :
    Calls Tryz.prog 23 #[.agg #[.int .i64 K, .int .u64 N, .string S, .int .i64 O]] w fun e w' => e = .returned (.tuple #[.agg #[.int .i64 (yK K N), .int .u64 (yN K N), .string (yS K N S), .int .i64 (yO K N O)], .bool (kok K N)]) ∧ Below w.heap.size w w' := by
  have HN : Hid (∀ w, Calls Tryz.prog 22 #[.agg #[.int .i64 K, .int .u64 N, .string S, .int .i64 O]] w fun e w' => e = .returned (.agg #[.int .i64 (nK K), .int .u64 (nN K N), .string (nS K S), .int .i64 (nO K O)]) ∧ Below w.heap.size w w') := fun w => normal_any K N S O w hN
  have HS : Hid (∀ w, Calls Tryz.prog 57 #[.agg #[.int .i64 (nK K), .int .u64 (nN K N), .string (nS K S), .int .i64 (nO K O)], .agg #[.int .i64 (nK K), .int .u64 (nN K N), .string (nS K S), .int .i64 (nO K O)]] w fun e w' => e = .returned (.bool (sameB (nK K) (nN K N) (nS K S) (nO K O) (nK K) (nN K N) (nS K S) (nO K O))) ∧ Below w.heap.size w w') := fun w => same_any _ _ _ _ _ _ _ _ w (nN_u64 hN) (nN_u64 hN)
  have HKi : Hid (∀ w, Calls Tryz.prog 58 #[.int .u64 (nN K N)] w fun e w' => e = .returned (.int .i64 (kindZ (nN K N))) ∧ w' = w) := fun w => kind_any _ w (nN_u64 hN)
  have HAb : Hid (∀ w, Calls Tryz.prog 59 #[.int .u64 (nN K N)] w fun e w' => e = .returned (.int .u64 (absZ (nN K N))) ∧ w' = w) := fun w => abs_any _ w (nN_u64 hN)
  have HY : Hid (kok K N = false → yK K N = 0 ∧ yN K N = 0 ∧ yS K N S = ⟨#[]⟩ ∧ yO K N O = 0) := key_zero S O
  have HY2 : Hid (kok K N = true → yK K N = nK K ∧ yN K N = kN K N ∧ yS K N S = nS K S ∧ yO K N O = nO K O) := key_some S O
  go_enter Tryz.func23, Tryz.ntmps23
  go_upto_region 1 with fail
  go_cut [3] (fun t wx => t = .bool false ∧ wx.cell? ⟨w.heap.size, 0, none⟩ = some (.int .i64 (nK K)) ∧ wx.cell? ⟨w.heap.size, 1, none⟩ = some (.int .u64 (nN K N)) ∧ wx.cell? ⟨w.heap.size, 2, none⟩ = some (.string (nS K S)) ∧ wx.cell? ⟨w.heap.size, 3, none⟩ = some (.int .i64 (nO K O)) ∧
    wx.cell? ⟨w.heap.size + 1, 0, none⟩ = some (.int .i64 0) ∧ wx.cell? ⟨w.heap.size + 1, 1, none⟩ = some (.int .u64 0) ∧ wx.cell? ⟨w.heap.size + 1, 2, none⟩ = some (.string ⟨#[]⟩) ∧ wx.cell? ⟨w.heap.size + 1, 3, none⟩ = some (.int .i64 0) ∧ (∀ i, wx.frozen? ⟨w.heap.size, i, none⟩ = false) ∧ (∀ i, wx.frozen? ⟨w.heap.size + 1, i, none⟩ = false) ∧ w.heap.size + 1 < wx.heap.size ∧ Hid (Below w.heap.size w wx))
  case first =>
    go_wp2_with fail
    refine (HN.out _).mono ?_
    rintro e wn ⟨rfl, hb⟩
    obtain ⟨hc, hf⟩ := bcell hb
    have hsz := hb.size
    simp at hsz
    have a0 : wn.cell? ⟨w.heap.size, 0, none⟩ = some (.int .i64 K) := by rw [hc _ _ (by simp; try omega)]; simp
    have a1 : wn.cell? ⟨w.heap.size, 1, none⟩ = some (.int .u64 N) := by rw [hc _ _ (by simp; try omega)]; simp
    have a2 : wn.cell? ⟨w.heap.size, 2, none⟩ = some (.string S) := by rw [hc _ _ (by simp; try omega)]; simp
    have a3 : wn.cell? ⟨w.heap.size, 3, none⟩ = some (.int .i64 O) := by rw [hc _ _ (by simp; try omega)]; simp
    have b0 : wn.cell? ⟨w.heap.size + 1, 0, none⟩ = some (.int .i64 0) := by rw [hc _ _ (by simp; try omega)]; simp
    have b1 : wn.cell? ⟨w.heap.size + 1, 1, none⟩ = some (.int .u64 0) := by rw [hc _ _ (by simp; try omega)]; simp
    have b2 : wn.cell? ⟨w.heap.size + 1, 2, none⟩ = some (.string ⟨#[]⟩) := by rw [hc _ _ (by simp; try omega)]; simp
    have b3 : wn.cell? ⟨w.heap.size + 1, 3, none⟩ = some (.int .i64 0) := by rw [hc _ _ (by simp; try omega)]; simp
    have f0 : ∀ i, wn.frozen? ⟨w.heap.size, i, none⟩ = false := fun i => by rw [hf _ _ (by simp; try omega)]; simp
    have f1 : ∀ i, wn.frozen? ⟨w.heap.size + 1, i, none⟩ = false := fun i => by rw [hf _ _ (by simp; try omega)]; simp
    have hB : Below w.heap.size w wn := (((Below.refl _ _).alloc (Nat.le_refl _) _).alloc (by simp) _).trans (hb.mono (by simp; omega))
    have q1 := stored4 wn _ w.heap.size (.int .i64 (nK K)) (.int .u64 (nN K N)) (.string (nS K S)) (.int .i64 (nO K O)) _ _ _ _ a0 a1 a2 a3 rfl
    have hB1 := set4 (i0 := 0) (i1 := 1) (i2 := 2) (i3 := 3) hB (Nat.le_refl _) (.int .i64 (nK K)) (.int .u64 (nN K N)) (.string (nS K S)) (.int .i64 (nO K O))
    go_wp2_with fail
    go_meet
    exact ⟨rfl, q1.1.1, q1.1.2.1, q1.1.2.2.1, q1.1.2.2.2, (q1.2 _ _ (by omega)).trans b0, (q1.2 _ _ (by omega)).trans b1, (q1.2 _ _ (by omega)).trans b2, (q1.2 _ _ (by omega)).trans b3, fun i => by simp [f0], fun i => by simp [f1], by simp; omega, hB1⟩
  case rest =>
    obtain ⟨rfl, a0, a1, a2, a3, b0, b1, b2, b3, f0, f1, hz, HB⟩ := hcut
    have hz0 : w.heap.size < wc.heap.size := by omega
    by_cases h0 : nK K = 0
    · have hk : kok K N = false := by unfold kok; rw [h0]; rfl
      go_wp2
      obtain ⟨y1, y2, y3, y4⟩ := HY.out hk
      exact bodyPost_ret (v := .tuple #[.agg #[.int .i64 0, .int .u64 0, .string ⟨#[]⟩, .int .i64 0], .bool false]) (by simp [results, Tryz.results23, go_sem, b0, b1, b2, b3]) rfl ⟨by rw [y1, y2, y3, y4, hk], set4 HB.out (by omega) _ _ _ _⟩
    · have hb0 : (nK K == 0) = false := by simpa using h0
      have hs := same_self S O hN h0
      rw [hs] at HS
      clear hs
      cases hk : kok K N
      · rw [hk] at HS
        go_wp2_with fail
        refine (HS.out _).mono ?_
        rintro e w1 ⟨rfl, hb⟩
        obtain ⟨hc, hf⟩ := bcell hb
        have k0 := (hc _ 0 hz).trans b0
        have k1 := (hc _ 1 hz).trans b1
        have k2 := (hc _ 2 hz).trans b2
        have k3 := (hc _ 3 hz).trans b3
        have kf : ∀ i, w1.frozen? ⟨w.heap.size + 1, i, none⟩ = false := fun i => (hf _ i hz).trans (f1 i)
        have HB1 : Hid (Below w.heap.size w w1) := HB.out.trans (hb.mono (by omega))
        go_wp2
        obtain ⟨y1, y2, y3, y4⟩ := HY.out hk
        exact bodyPost_ret (v := .tuple #[.agg #[.int .i64 0, .int .u64 0, .string ⟨#[]⟩, .int .i64 0], .bool false]) (by simp [results, Tryz.results23, go_sem, k0, k1, k2, k3]) rfl ⟨by rw [y1, y2, y3, y4, hk], set4 HB1.out (by omega) _ _ _ _⟩
      · rw [hk] at HS
        go_wp2_with fail
        refine (HS.out _).mono ?_
        rintro e w1 ⟨rfl, hb⟩
        obtain ⟨hc, hf⟩ := bcell hb
        have k0 := (hc _ 0 hz).trans b0
        have k1 := (hc _ 1 hz).trans b1
        have k2 := (hc _ 2 hz).trans b2
        have k3 := (hc _ 3 hz).trans b3
        have kf : ∀ i, w1.frozen? ⟨w.heap.size + 1, i, none⟩ = false := fun i => (hf _ i hz).trans (f1 i)
        have j0 := (hc _ 0 hz0).trans a0
        have j1 := (hc _ 1 hz0).trans a1
        have j2 := (hc _ 2 hz0).trans a2
        have j3 := (hc _ 3 hz0).trans a3
        have jf : ∀ i, w1.frozen? ⟨w.heap.size, i, none⟩ = false := fun i => (hf _ i hz0).trans (f0 i)
        have HB1 : Hid (Below w.heap.size w w1) := HB.out.trans (hb.mono (by omega))
        have HYY : Hid (yK K N = nK K ∧ yN K N = kN K N ∧ yS K N S = nS K S ∧ yO K N O = nO K O) := HY2.out hk
        have HK : Hid (kok K N = true) := hk
        clear hb hc hf a0 a1 a2 a3 b0 b1 b2 b3 f0 f1 hz hz0 HB HN HS HY HY2 hk
        by_cases h3 : nK K = 3
        · have hK3 : K = 3 := (nK_3 K).1 h3
          have hkz := kind_zero (nN K N)
          by_cases hm : mag (nN K N) = 0
          · have HM : Hid (kN K N = 0) := if_pos hm
            have HA : Hid (absZ (nN K N) = 0) := by have := kN_abs (N := N); rw [hK3] at hm ⊢; exact this hm
            rw [decide_eq_true hm] at hkz
            clear hm hK3
            go_wp2_with fail
            refine (HKi.out _).mono ?_
            rintro e w' ⟨rfl, rfl⟩
            go_wp2_with fail
            refine (HAb.out _).mono ?_
            rintro e w' ⟨rfl, rfl⟩
            rw [HA.out]
            go_wp2
            obtain ⟨y1, y2, y3, y4⟩ := HYY.out
            exact bodyPost_ret (v := .tuple #[.agg #[.int .i64 3, .int .u64 0, .string (nS K S), .int .i64 (nO K O)], .bool true]) (by simp [results, Tryz.results23, go_sem, k0, k1, k2, k3]) rfl ⟨by rw [y1, h3, y2, y3, y4, HM.out, HK.out], set4 (HB1.out.setCell (p := ⟨w.heap.size, 1, none⟩) (Nat.le_refl _) _) (by omega) _ _ _ _⟩
          · have HM : Hid (kN K N = nN K N) := if_neg hm
            rw [decide_eq_false hm] at hkz
            clear hm hK3
            go_wp2_with fail
            refine (HKi.out _).mono ?_
            rintro e w' ⟨rfl, rfl⟩
            go_wp2
            obtain ⟨y1, y2, y3, y4⟩ := HYY.out
            exact bodyPost_ret (v := .tuple #[.agg #[.int .i64 3, .int .u64 (nN K N), .string (nS K S), .int .i64 (nO K O)], .bool true]) (by simp [results, Tryz.results23, go_sem, k0, k1, k2, k3]) rfl ⟨by rw [y1, h3, y2, y3, y4, HM.out, HK.out], set4 HB1.out (by omega) _ _ _ _⟩
        · have h3b : (nK K == 3) = false := by simpa using h3
          have HM : Hid (kN K N = nN K N) := by
            have := kN_plain N (fun e : K = 3 => h3 ((nK_3 K).2 e))
            rw [this.1, this.2]; exact rfl
          go_wp2
          obtain ⟨y1, y2, y3, y4⟩ := HYY.out
          exact bodyPost_ret (v := .tuple #[.agg #[.int .i64 (nK K), .int .u64 (nN K N), .string (nS K S), .int .i64 (nO K O)], .bool true]) (by simp [results, Tryz.results23, go_sem, k0, k1, k2, k3]) rfl ⟨by rw [y1, y2, y3, y4, HM.out, HK.out], set4 HB1.out (by omega) _ _ _ _⟩

end Go.Proofs.YthmocdabakkfhaaGreatDoor

/-
  A region that draws its order, whose callees may make memory of their own: walked once, in the order of the text, in the class of worlds below which nothing has turned.
-/
namespace Go.Proofs.YthmocdabakkfhaaGreatDoor
set_option maxRecDepth 100000
open Go.RowKit

/-- A world in which all that was there is as it was. -/
structure BelowOf (w : World) where
  u : World
  h : Below w.heap.size w u

theorem wp_region_below {P : Program} {id : Nat} {Q : Exit → Act → World → Prop} {a : Act} {w : World} {l : List Oper} (hm : P.follows .mixedOrders = true) (hB : Region.lexB .any l.toArray = true)
    (h : wpQuiet P l.toArray (fun w' => ∃ p : BelowOf w, w' = p.u) (fun a' => ∀ w', (∃ p : BelowOf w, w' = p.u) → Q .normal a' w') l a) : (Code.region id l.toArray true).wp P Q a w :=
  wp_region_quiet (C := fun w' => ∃ p : BelowOf w, w' = p.u) hm hB ⟨⟨w.drewN 1, below_drewN (Below.refl _ _) 1⟩, rfl⟩ (by simpa using h)

/-- A callee's contract, met in a world of the class. -/
theorem below_of {P : Program} {f : FuncId} {args : Array Value} {w : World} {p : BelowOf w} {v : Value}
    (h : Calls P f args p.u fun e w' => e = .returned v ∧ Below p.u.heap.size p.u w') : Calls P f args p.u fun e w'' => e = .returned v ∧ ∃ p' : BelowOf w, w'' = p'.u :=
  h.mono fun _ w' ⟨he, hb⟩ => ⟨he, ⟨⟨w', p.h.trans (hb.mono p.h.size)⟩, rfl⟩⟩

end Go.Proofs.YthmocdabakkfhaaGreatDoor

/-
  Layer 9: the hash of a key: some number that the key alone decides.
-/
namespace Go.Proofs.YthmocdabakkfhaaGreatDoor
set_option maxRecDepth 100000
open Go.RowKit

/-- One part mixed into a hash. -/
def mixA (h p : Int) : Int := IntKind.u64.wrap (bits BinOp.xor IntKind.u64 h p * 11400714819323198485)
def mixZ (h p : Int) : Int := bits BinOp.xor IntKind.u64 (mixA h p) (mixA h p / 4294967296)
theorem mixZ_in (h p : Int) : 0 ≤ mixZ h p ∧ mixZ h p ≤ 18446744073709551615 := bits_within _ .u64 _ _

/-- The block b holds the number h; all else is as it was. -/
def Mx (b : Nat) (h : Int) (w w' : World) : Prop :=
  w'.cell? ⟨b, 0, none⟩ = some (.int .u64 h) ∧ w'.frozen? ⟨b, 0, none⟩ = false ∧ (∀ k o, k ≠ b → w'.cell? ⟨k, o, none⟩ = w.cell? ⟨k, o, none⟩) ∧ (∀ B W, B ≤ b → Below B W w → Below B W w')

set_option maxHeartbeats 1000000 in
theorem mix_any (p h : Int) (b : Nat) (w : World) (hc : w.cell? ⟨b, 0, none⟩ = some (.int .u64 h)) (hz : w.frozen? ⟨b, 0, none⟩ = false) :
    Calls Tryz.prog 61 #[.int .u64 p, .pointer (some ⟨b, 0, none⟩)] w fun e w' => e = .returned (.tuple #[]) ∧ Mx b (mixZ h p) w w' := by
  have HM : Hid (Mx b (mixZ h p) w ((w.setCell ⟨b, 0, none⟩ (.int .u64 (mixA h p))).setCell ⟨b, 0, none⟩ (.int .u64 (mixZ h p)))) := by
    refine ⟨?_, ?_, ?_, ?_⟩
    · exact World.cell?_setCell_same _ _ _ (World.cell?_setCell_same _ _ _ hc)
    · rw [World.frozen?_setCell, World.frozen?_setCell]; exact hz
    · intro k o hk
      rw [World.cell?_setCell_other _ _ _ _ (by simp; try omega), World.cell?_setCell_other _ _ _ _ (by simp; try omega)]
    · intro B W hB hb
      exact (hb.setCell (p := ⟨b, 0, none⟩) hB _).setCell (p := ⟨b, 0, none⟩) hB _
  unfold mixZ mixA at HM
  unfold mixZ mixA
  go_enter Tryz.func61, Tryz.ntmps61
  go_wp2
  go_end0
  exact ⟨rfl, HM.out⟩

/-- The bytes of a text mixed into a hash, and what is left over. -/
def byteZ (S : ByteArray) (i : Nat) : Int := if h : i < S.size then IntKind.u64.wrap ((S[i].toNat : Nat) : Int) else 0
def hw (S : ByteArray) (h : Int) : Nat → Int × Int
  | 0 => (h, 0)
  | i + 1 => if i % 8 = 7 then (mixZ (hw S h i).1 (bits BinOp.or IntKind.u64 (IntKind.u64.wrap ((hw S h i).2 * 256)) (byteZ S i)), 0)
      else ((hw S h i).1, bits BinOp.or IntKind.u64 (IntKind.u64.wrap ((hw S h i).2 * 256)) (byteZ S i))
theorem hw_put (S : ByteArray) (h : Int) (i : Nat) (hi : i < S.size) (h8 : i % 8 = 7) : hw S h (i + 1) = (mixZ (hw S h i).1 (bits BinOp.or IntKind.u64 (IntKind.u64.wrap ((hw S h i).2 * 256)) (IntKind.u64.wrap ((S[i].toNat : Nat) : Int))), 0) := by
  rw [hw, if_pos h8, byteZ, dif_pos hi]
theorem hw_keep (S : ByteArray) (h : Int) (i : Nat) (hi : i < S.size) (h8 : ¬ i % 8 = 7) : hw S h (i + 1) = ((hw S h i).1, bits BinOp.or IntKind.u64 (IntKind.u64.wrap ((hw S h i).2 * 256)) (IntKind.u64.wrap ((S[i].toNat : Nat) : Int))) := by
  rw [hw, if_neg h8, byteZ, dif_pos hi]
def hZ (K N : Int) (S : ByteArray) (O : Int) : Int :=
  let h := mixZ (mixZ (mixZ (mixZ 0 (IntKind.u64.wrap K)) N) (IntKind.u64.wrap O)) (S.size : Nat)
  mixZ (hw S h S.size).1 (hw S h S.size).2

/-- What the hash's function keeps: the key in its box, the hash in its own. -/
def HS (w : World) (K N : Int) (S : ByteArray) (O h : Int) (w' : World) : Prop :=
  w'.cell? ⟨w.heap.size, 0, none⟩ = some (.int .i64 K) ∧ w'.cell? ⟨w.heap.size, 1, none⟩ = some (.int .u64 N) ∧ w'.cell? ⟨w.heap.size, 2, none⟩ = some (.string S) ∧ w'.cell? ⟨w.heap.size, 3, none⟩ = some (.int .i64 O) ∧
  w'.cell? ⟨w.heap.size + 1, 0, none⟩ = some (.int .u64 h) ∧ w'.frozen? ⟨w.heap.size + 1, 0, none⟩ = false ∧ Below w.heap.size w w'
theorem HS.mx {w w1 w2 : World} {K N O h h' : Int} {S : ByteArray} (H : HS w K N S O h w1) (m : Mx (w.heap.size + 1) h' w1 w2) : HS w K N S O h' w2 := by
  obtain ⟨c0, c1, c2, c3, c4, c5, c6⟩ := H
  obtain ⟨m0, m1, m2, m3⟩ := m
  exact ⟨(m2 _ _ (by omega)).trans c0, (m2 _ _ (by omega)).trans c1, (m2 _ _ (by omega)).trans c2, (m2 _ _ (by omega)).trans c3, m0, m1, m3 _ _ (by omega) c6⟩
theorem HS.first (w : World) (K N : Int) (S : ByteArray) (O : Int) :
    HS w K N S O 0 ((w.alloc (.cells #[.int .i64 K, .int .u64 N, .string S, .int .i64 O] 37)).alloc (.cells #[.int .u64 0] 34)) := by
  refine ⟨?_, ?_, ?_, ?_, ?_, ?_, ((Below.refl _ _).alloc (Nat.le_refl _) _).alloc (by simp) _⟩ <;> go_simp

set_option maxHeartbeats 1000000 in
theorem hash_any (K N : Int) (S : ByteArray) (O : Int) (w : World) (hS : S.size ≤ 9223372036854775807) :
    Calls Tryz.prog 25 #[.agg #[.int .i64 K, .int .u64 N, .string S, .int .i64 O]] w fun e w' => e = .returned (.int .u64 (hZ K N S O)) ∧ Below w.heap.size w w' := by
  have H0 : Hid (HS w K N S O 0 ((w.alloc (.cells #[.int .i64 K, .int .u64 N, .string S, .int .i64 O] 37)).alloc (.cells #[.int .u64 0] 34))) := HS.first w K N S O
  unfold hZ
  obtain ⟨h, hh⟩ : ∃ h, mixZ (mixZ (mixZ (mixZ 0 (IntKind.u64.wrap K)) N) (IntKind.u64.wrap O)) (S.size : Nat) = h := ⟨_, rfl⟩
  have HH : Hid (mixZ (mixZ (mixZ (mixZ 0 (IntKind.u64.wrap K)) N) (IntKind.u64.wrap O)) (S.size : Nat) = h) := hh
  rw [hh]
  clear hh
  show Calls _ _ _ _ fun e w' => e = .returned (.int .u64 (mixZ (hw S h S.size).1 (hw S h S.size).2)) ∧ _
  go_enter Tryz.func25, Tryz.ntmps25
  go_wp2_with fail
  refine (mix_any _ 0 _ _ H0.out.2.2.2.2.1 H0.out.2.2.2.2.2.1).mono ?_
  rintro e w1 ⟨rfl, m1⟩
  have H1 : Hid (HS w K N S O _ w1) := H0.out.mx m1
  clear m1 H0
  have c := H1.out.2.1
  go_wp2_with fail
  refine (mix_any _ _ _ _ H1.out.2.2.2.2.1 H1.out.2.2.2.2.2.1).mono ?_
  rintro e w2 ⟨rfl, m1⟩
  have H2 : Hid (HS w K N S O _ w2) := H1.out.mx m1
  clear m1 H1 c
  have c := H2.out.2.2.2.1
  go_wp2_with fail
  refine (mix_any _ _ _ _ H2.out.2.2.2.2.1 H2.out.2.2.2.2.2.1).mono ?_
  rintro e w3 ⟨rfl, m1⟩
  have H3 : Hid (HS w K N S O _ w3) := H2.out.mx m1
  clear m1 H2 c
  have c := H3.out.2.2.1
  go_wp2_with fail
  refine (mix_any _ _ _ _ H3.out.2.2.2.2.1 H3.out.2.2.2.2.2.1).mono ?_
  rintro e w4 ⟨rfl, m1⟩
  have H4 : Hid (HS w K N S O _ w4) := H3.out.mx m1
  clear m1 H3 c
  have c := H4.out.2.2.1
  rw [HH.out] at H4
  go_wp2_with fail
  go_loopw [5, 31] (fun t5 t31 wr => ∃ i : Nat, i ≤ S.size ∧ t31 = .int .i64 i ∧ t5 = .int .u64 (hw S h i).2 ∧ Hid (HS w K N S O (hw S h i).1 wr)) (fun _ t31 _ => S.size - (intOf t31).toNat)
  case atStart => exact ⟨0, Nat.zero_le _, rfl, rfl, H4.out⟩
  case round =>
    obtain ⟨i, hi, rfl, rfl, HI⟩ := hrel
    clear H4 c
    have c := HI.out.2.2.1
    by_cases hil : i < S.size
    · go_wp2_with fail
      · rename_i hm _ _ _ _
        have h8 : i % 8 = 7 := by simp at hm; omega
        have HE : Hid (hw S h (i + 1) = _) := hw_put S h i hil h8
        refine (mix_any _ _ _ _ HI.out.2.2.2.2.1 HI.out.2.2.2.2.2.1).mono ?_
        rintro e w5 ⟨rfl, m1⟩
        have H5 : Hid (HS w K N S O _ w5) := HI.out.mx m1
        clear m1 HI c
        go_wp2_with fail
        have e := HE.out
        exact ⟨⟨i + 1, hil, rfl, by rw [e], by rw [e]; exact H5⟩, by simp [intOf]; omega⟩
      · rename_i hm
        have h8 : ¬ i % 8 = 7 := by simp at hm; omega
        have e := hw_keep S h i hil h8
        exact ⟨⟨i + 1, hil, rfl, by rw [e], by rw [e]; exact HI⟩, by simp [intOf]; omega⟩
    · have he : i = S.size := by omega
      subst he
      go_wp2_with fail
      refine (mix_any _ _ _ _ HI.out.2.2.2.2.1 HI.out.2.2.2.2.2.1).mono ?_
      rintro e w5 ⟨rfl, m1⟩
      have H5 := HI.out.mx m1
      have c2 := H5.2.2.2.2.1
      have HB : Hid (Below w.heap.size w w5) := H5.2.2.2.2.2.2
      clear m1 H5 HI c
      go_wp2
      go_ret
      exact ⟨rfl, HB.out⟩
end Go.Proofs.YthmocdabakkfhaaGreatDoor
