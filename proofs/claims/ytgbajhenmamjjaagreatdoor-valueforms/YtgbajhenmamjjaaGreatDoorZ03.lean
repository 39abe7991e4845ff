/-
  FloRef2, Val
-/
import Derived.Deep.RegionWith
import Derived.Test.YtgbajhenmamjjaaGreatDoorZ02

/-
  The walks of the reference's Before and Parts, and of the program's Parts.
-/
namespace Go.Proofs.YtgbajhenmamjjaaGreatDoor
set_option maxRecDepth 100000
open Go.RowKit Flo

theorem before_alt {a b : Int} (ha : U64 a) (hb : U64 b) (na : nanB a = false) (nb : nanB b = false) :
    beforeB a b = if mag a = 0 ∧ mag b = 0 then belowB a && !belowB b else decide (sv a < sv b) := by
  obtain ⟨a0, a1⟩ := ha
  obtain ⟨b0, b1⟩ := hb
  unfold beforeB
  rw [na, nb]
  simp only [Bool.false_eq_true, if_false]
  by_cases c : mag a = 0 ∧ mag b = 0
  · rw [if_pos c, if_pos]
    obtain ⟨c1, c2⟩ := c
    unfold sv
    unfold mag at c1 c2
    split <;> split <;> omega
  · rw [if_neg c]
    split
    · rename_i e
      have : belowB a = belowB b := by
        unfold belowB
        rw [decide_eq_decide]
        unfold sv at e
        unfold mag at c
        split at e <;> split at e <;> omega
      rw [this, decide_eq_false (by omega)]
      cases belowB b <;> rfl
    · rfl

/-- A number's power of two and whole number. -/
def pexp (a : Int) : Int := if kindZ a = 1 then -1074 else if kindZ a = 2 then expo a - 1075 else 0
def pfrac (a : Int) : Int := if kindZ a = 1 then frac a else if kindZ a = 2 then frac a + 4503599627370496 else 0

theorem kind_vals (a : Int) : kindZ a = 0 ∨ kindZ a = 1 ∨ kindZ a = 2 ∨ kindZ a = 3 ∨ kindZ a = 4 := by
  unfold kindZ; (repeat' split) <;> simp

theorem or_hidden {a : Int} (h0 : 0 ≤ frac a) (h1 : frac a < 4503599627370496) : bits .or .u64 (frac a) 4503599627370496 = frac a + 4503599627370496 := by
  rw [u64_or _ _ h0 (by omega) (by decide) (by decide), Nat.or_comm, show (4503599627370496 : Int).toNat = 4503599627370496 from rfl, nat_join 52 _ _ (by decide) (by omega)]
  omega

set_option maxHeartbeats 1000000 in
theorem refParts_any (a : Int) (w : World) (h : U64 a) : Calls Tryz.prog 78 #[.int .u64 a] w fun e w' => e = .returned (.tuple #[.bool (belowB a), .int .i64 (pexp a), .int .u64 (pfrac a)]) ∧ w' = w := by
  have t1 := and_expo h
  have t2 := and_frac h
  obtain ⟨_, e0, e1, f0, f1⟩ := mag_parts h
  unfold pexp pfrac
  generalize expo a = E at *
  generalize frac a = F at *
  rcases kind_vals a with k | k | k | k | k
  all_goals
    simp only [k]
    go_enter Tryz.func78, Tryz.ntmps78
    go_wp2_with (first | (go_at_call 18; refine (refKind_any _ _ (by assumption)).mono ?_; rintro e w' ⟨rfl, rfl⟩) | (go_at_call 34; refine (refNeg_any _ _ (by assumption)).mono ?_; rintro e w' ⟨rfl, rfl⟩))
    go_ret3
    exact ⟨rfl, rfl⟩

set_option maxHeartbeats 1000000 in
theorem parts_any (a : Int) (w : World) (h : U64 a) : Calls Tryz.prog 31 #[.int .u64 a] w fun e w' => e = .returned (.tuple #[.bool (belowB a), .int .i64 (pexp a), .int .u64 (pfrac a)]) ∧ w' = w := by
  have t1 := and_expo h
  have t2 := and_frac h
  obtain ⟨_, e0, e1, f0, f1⟩ := mag_parts h
  have t3 := or_hidden f0 f1
  unfold pexp pfrac
  have hE : expo a - 1 + -1074 = expo a - 1075 := by omega
  generalize expo a = E at *
  generalize frac a = F at *
  rcases kind_vals a with k | k | k | k | k
  all_goals
    simp only [k]
    go_enter Tryz.func31, Tryz.ntmps31
    go_wp2_with (first | (go_at_call 16; refine (kind_any _ _ (by assumption)).mono ?_; rintro e w' ⟨rfl, rfl⟩) | (go_at_call 40; refine (below_any _ _ (by assumption)).mono ?_; rintro e w' ⟨rfl, rfl⟩))
    go_ret3
    exact ⟨rfl, rfl⟩

end Go.Proofs.YtgbajhenmamjjaaGreatDoor

/-
  Layer 8: a value's plain form; the landed and the reference's Normal, walked.
-/
namespace Go.Proofs.YtgbajhenmamjjaaGreatDoor
set_option maxRecDepth 100000
open Go.RowKit Flo

/-- The plain form of a value: its kind, its number, its text, its object. -/
def nK (K : Int) : Int := if 0 ≤ K ∧ K ≤ 8 then K else 0
def nN (K N : Int) : Int := if K = 3 then canonZ N else 0
def nS (K : Int) (S : ByteArray) : ByteArray := if K = 4 then S else ⟨#[]⟩
def nO (K O : Int) : Int := if 5 ≤ K ∧ K ≤ 8 then O else 0
/-- A value. -/
def vl (K N : Int) (S : ByteArray) (O : Int) : Value := .agg #[.int .i64 K, .int .u64 N, .string S, .int .i64 O]
/-- Its plain form. -/
def nv (K N : Int) (S : ByteArray) (O : Int) : Value := vl (nK K) (nN K N) (nS K S) (nO K O)

theorem nv3 (N : Int) (S : ByteArray) (O : Int) : nv 3 N S O = .agg #[.int .i64 3, .int .u64 (canonZ N), .string ⟨#[]⟩, .int .i64 0] := rfl
theorem nv4 (N : Int) (S : ByteArray) (O : Int) : nv 4 N S O = .agg #[.int .i64 4, .int .u64 0, .string S, .int .i64 0] := rfl
theorem nvO {K : Int} (N : Int) (S : ByteArray) (O : Int) (h1 : 5 ≤ K) (h2 : K ≤ 8) : nv K N S O = .agg #[.int .i64 K, .int .u64 0, .string ⟨#[]⟩, .int .i64 O] := by
  unfold nv vl nK nN nS nO
  rw [if_pos (by omega), if_neg (by omega), if_neg (by omega), if_pos (by omega)]
theorem nvB {K : Int} (N : Int) (S : ByteArray) (O : Int) (h : K = 1 ∨ K = 2) : nv K N S O = .agg #[.int .i64 K, .int .u64 0, .string ⟨#[]⟩, .int .i64 0] := by
  unfold nv vl nK nN nS nO
  rw [if_pos (by omega), if_neg (by omega), if_neg (by omega), if_neg (by omega)]
theorem nv0 {K : Int} (N : Int) (S : ByteArray) (O : Int) (h : K ≤ 0 ∨ 9 ≤ K) : nv K N S O = .agg #[.int .i64 0, .int .u64 0, .string ⟨#[]⟩, .int .i64 0] := by
  unfold nv vl nK nN nS nO
  rw [if_neg (by omega : ¬ K = 3), if_neg (by omega : ¬ K = 4), if_neg (by omega : ¬ (5 ≤ K ∧ K ≤ 8))]
  by_cases k : K = 0
  · subst k; rfl
  · rw [if_neg (by omega)]

theorem vnum_any (N : Int) (w : World) : Calls Tryz.prog 19 #[.int .u64 N] w fun e w' => e = .returned (.agg #[.int .i64 3, .int .u64 N, .string ⟨#[]⟩, .int .i64 0]) ∧ Below w.heap.size w w' := by
  go_enter Tryz.func19, Tryz.ntmps19
  go_wp2
  exact bodyPost_ret (v := .agg #[.int .i64 3, .int .u64 N, .string ⟨#[]⟩, .int .i64 0]) (by simp [results, Tryz.results19, go_sem]) rfl ⟨rfl, by first | exact (Below.refl _ _).alloc (Nat.le_refl _) _ | skip⟩
theorem vtext_any (S : ByteArray) (w : World) : Calls Tryz.prog 21 #[.string S] w fun e w' => e = .returned (.agg #[.int .i64 4, .int .u64 0, .string S, .int .i64 0]) ∧ Below w.heap.size w w' := by
  go_enter Tryz.func21, Tryz.ntmps21
  go_wp2
  exact bodyPost_ret (v := .agg #[.int .i64 4, .int .u64 0, .string S, .int .i64 0]) (by simp [results, Tryz.results21, go_sem]) rfl ⟨rfl, (Below.refl _ _).alloc (Nat.le_refl _) _⟩

/-- What was there reads as before. -/
theorem bcell {W w1 : World} (hb : Below W.heap.size W w1) : (∀ b o, b < W.heap.size → w1.cell? ⟨b, o, none⟩ = W.cell? ⟨b, o, none⟩) ∧ (∀ b o, b < W.heap.size → w1.frozen? ⟨b, o, none⟩ = W.frozen? ⟨b, o, none⟩) :=
  ⟨fun _ _ h => hb.cell h, fun _ _ h => hb.frozen h⟩

theorem set4 {B b i0 i1 i2 i3 : Nat} {W w1 : World} (h : Below B W w1) (hb : B ≤ b) (v0 v1 v2 v3 : Value) :
    Below B W ((((w1.setCell ⟨b, i0, none⟩ v0).setCell ⟨b, i1, none⟩ v1).setCell ⟨b, i2, none⟩ v2).setCell ⟨b, i3, none⟩ v3) :=
  (((h.setCell (p := ⟨b, i0, none⟩) hb _).setCell (p := ⟨b, i1, none⟩) hb _).setCell (p := ⟨b, i2, none⟩) hb _).setCell (p := ⟨b, i3, none⟩) hb _

set_option maxHeartbeats 1000000 in
theorem normal_any (K N : Int) (S : ByteArray) (O : Int) (w : World) (hN : U64 N) :
    Calls Tryz.prog 6 #[.agg #[.int .i64 K, .int .u64 N, .string S, .int .i64 O]] w fun e w' => e = .returned (nv K N S O) ∧ Below w.heap.size w w' := by
  have hc : K = 3 ∨ K = 4 ∨ (K = 5 ∨ K = 6 ∨ K = 7 ∨ K = 8) ∨ (K = 1 ∨ K = 2) ∨ (K ≤ 0 ∨ 9 ≤ K) := by omega
  rcases hc with c | c | c | c | c
  · subst c
    rw [nv3]
    have HC := fun w => canon_any N w hN
    generalize canonZ N = M at *
    go_enter Tryz.func6, Tryz.ntmps6
    go_wp2_with fail
    refine (HC _).mono ?_
    rintro e w' ⟨rfl, rfl⟩
    go_wp2_with fail
    refine (vnum_any M _).mono ?_
    rintro e w1 ⟨rfl, hb⟩
    obtain ⟨hc, hf⟩ := bcell hb
    go_wp2
    exact bodyPost_ret (v := .agg #[.int .i64 3, .int .u64 M, .string ⟨#[]⟩, .int .i64 0]) (by simp [results, Tryz.results6, go_sem, hc]) rfl ⟨rfl, set4 (((((Below.refl _ _).alloc (Nat.le_refl _) _).alloc (by simp) _)).trans (hb.mono (by simp; omega))) (by omega) _ _ _ _⟩
  · subst c
    rw [nv4]
    go_enter Tryz.func6, Tryz.ntmps6
    go_wp2_with fail
    refine (vtext_any S _).mono ?_
    rintro e w1 ⟨rfl, hb⟩
    obtain ⟨hc, hf⟩ := bcell hb
    go_wp2
    exact bodyPost_ret (v := .agg #[.int .i64 4, .int .u64 0, .string S, .int .i64 0]) (by simp [results, Tryz.results6, go_sem, hc]) rfl ⟨rfl, set4 (((((Below.refl _ _).alloc (Nat.le_refl _) _).alloc (by simp) _)).trans (hb.mono (by simp; omega))) (by omega) _ _ _ _⟩
  · rw [nvO _ _ _ (by omega) (by omega)]
    rcases c with c | c | c | c <;> subst c
    all_goals
      go_enter Tryz.func6, Tryz.ntmps6
      go_wp2
      exact bodyPost_ret (v := .agg #[.int .i64 _, .int .u64 0, .string ⟨#[]⟩, .int .i64 O]) (by simp [results, Tryz.results6, go_sem]) rfl ⟨rfl, ((Below.refl _ _).alloc (Nat.le_refl _) _).alloc (by simp) _⟩
  · rw [nvB _ _ _ c]
    rcases c with c | c <;> subst c
    all_goals
      go_enter Tryz.func6, Tryz.ntmps6
      go_wp2
      exact bodyPost_ret (v := .agg #[.int .i64 _, .int .u64 0, .string ⟨#[]⟩, .int .i64 0]) (by simp [results, Tryz.results6, go_sem]) rfl ⟨rfl, ((Below.refl _ _).alloc (Nat.le_refl _) _).alloc (by simp) _⟩
  · rw [nv0 _ _ _ c]
    rcases c with c | c
    all_goals
      go_enter Tryz.func6, Tryz.ntmps6
      go_wp2
      exact bodyPost_ret (v := .agg #[.int .i64 0, .int .u64 0, .string ⟨#[]⟩, .int .i64 0]) (by simp [results, Tryz.results6, go_sem]) rfl ⟨rfl, ((Below.refl _ _).alloc (Nat.le_refl _) _).alloc (by simp) _⟩

set_option maxHeartbeats 1000000 in
theorem refNormal_any (K N : Int) (S : ByteArray) (O : Int) (w : World) (hN : U64 N) :
    Calls Tryz.prog 7 #[.agg #[.int .i64 K, .int .u64 N, .string S, .int .i64 O]] w fun e w' => e = .returned (nv K N S O) ∧ Below w.heap.size w w' := by
  have hc : K = 3 ∨ K = 4 ∨ (K = 5 ∨ K = 6 ∨ K = 7 ∨ K = 8) ∨ (K = 1 ∨ K = 2) ∨ (K ≤ 0 ∨ 9 ≤ K) := by omega
  rcases hc with c | c | c | c | c
  · subst c
    rw [nv3]
    have HC := fun w => refCanon_any N w hN
    generalize canonZ N = M at *
    go_enter Tryz.func7, Tryz.ntmps7
    go_wp2_with fail
    go_region_with (go_at_call 22; refine (HC _).mono ?_; rintro e w' ⟨rfl, rfl⟩)
    all_goals
      go_wp2
      exact bodyPost_ret (v := .agg #[.int .i64 3, .int .u64 M, .string ⟨#[]⟩, .int .i64 0]) (by simp [results, Tryz.results7, go_sem]) rfl ⟨rfl, (((Below.refl _ _).alloc (Nat.le_refl _) _).alloc (by simp) _).drew⟩
  · subst c
    rw [nv4]
    go_enter Tryz.func7, Tryz.ntmps7
    go_wp2
    exact bodyPost_ret (v := .agg #[.int .i64 4, .int .u64 0, .string S, .int .i64 0]) (by simp [results, Tryz.results7, go_sem]) rfl ⟨rfl, ((Below.refl _ _).alloc (Nat.le_refl _) _).alloc (by simp) _⟩
  · rw [nvO _ _ _ (by omega) (by omega)]
    rcases c with c | c | c | c <;> subst c
    all_goals
      go_enter Tryz.func7, Tryz.ntmps7
      go_wp2
      exact bodyPost_ret (v := .agg #[.int .i64 _, .int .u64 0, .string ⟨#[]⟩, .int .i64 O]) (by simp [results, Tryz.results7, go_sem]) rfl ⟨rfl, ((Below.refl _ _).alloc (Nat.le_refl _) _).alloc (by simp) _⟩
  · rw [nvB _ _ _ c]
    rcases c with c | c <;> subst c
    all_goals
      go_enter Tryz.func7, Tryz.ntmps7
      go_wp2
      exact bodyPost_ret (v := .agg #[.int .i64 _, .int .u64 0, .string ⟨#[]⟩, .int .i64 0]) (by simp [results, Tryz.results7, go_sem]) rfl ⟨rfl, ((Below.refl _ _).alloc (Nat.le_refl _) _).alloc (by simp) _⟩
  · rw [nv0 _ _ _ c]
    have b1 : (K == 1) = false := by simp; omega
    have b2 : (K == 2) = false := by simp; omega
    rcases c with c | c
    all_goals
      go_enter Tryz.func7, Tryz.ntmps7
      go_wp2
      exact bodyPost_ret (v := .agg #[.int .i64 0, .int .u64 0, .string ⟨#[]⟩, .int .i64 0]) (by simp [results, Tryz.results7, go_sem]) rfl ⟨rfl, ((Below.refl _ _).alloc (Nat.le_refl _) _).alloc (by simp) _⟩

end Go.Proofs.YtgbajhenmamjjaaGreatDoor
