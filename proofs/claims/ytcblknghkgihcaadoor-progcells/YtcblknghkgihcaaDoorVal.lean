/-
  Layer 8: a value's plain form; the landed and the reference's Normal, walked.
-/
import Derived.Test.YtcblknghkgihcaaDoorFloRef2
import Derived.Deep.RegionWith
namespace Go.Proofs.YtcblknghkgihcaaDoor
set_option maxRecDepth 100000
open Go.RowKit Flo

/-- The plain form of a value: its kind, its number, its text, its object. -/
def nK (K : Int) : Int := if 0 ≤ K ∧ K ≤ 8 then K else 0
def nN (K N : Int) : Int := if K = 3 then canonZ N else 0
def nS (K : Int) (S : ByteArray) : ByteArray := if K = 4 then S else ⟨#[]⟩
def nO (K O : Int) : Int := if 5 ≤ K ∧ K ≤ 8 then O else 0
/-- A value. -/
def vl (K N : Int) (S : ByteArray) (O : Int) : Value := .agg #[.int .i64 K, .int .u64 N, .string S, .int .i64 O]
/-- Its plain form. -/
def nv (K N : Int) (S : ByteArray) (O : Int) : Value := vl (nK K) (nN K N) (nS K S) (nO K O)

theorem nv3 (N : Int) (S : ByteArray) (O : Int) : nv 3 N S O = .agg #[.int .i64 3, .int .u64 (canonZ N), .string ⟨#[]⟩, .int .i64 0] := rfl
theorem nv4 (N : Int) (S : ByteArray) (O : Int) : nv 4 N S O = .agg #[.int .i64 4, .int .u64 0, .string S, .int .i64 0] := rfl
theorem nvO {K : Int} (N : Int) (S : ByteArray) (O : Int) (h1 : 5 ≤ K) (h2 : K ≤ 8) : nv K N S O = .agg #[.int .i64 K, .int .u64 0, .string ⟨#[]⟩, .int .i64 O] := by
  unfold nv vl nK nN nS nO
  rw [if_pos (by omega), if_neg (by omega), if_neg (by omega), if_pos (by omega)]
theorem nvB {K : Int} (N : Int) (S : ByteArray) (O : Int) (h : K = 1 ∨ K = 2) : nv K N S O = .agg #[.int .i64 K, .int .u64 0, .string ⟨#[]⟩, .int .i64 0] := by
  unfold nv vl nK nN nS nO
  rw [if_pos (by omega), if_neg (by omega), if_neg (by omega), if_neg (by omega)]
theorem nv0 {K : Int} (N : Int) (S : ByteArray) (O : Int) (h : K ≤ 0 ∨ 9 ≤ K) : nv K N S O = .agg #[.int .i64 0, .int .u64 0, .string ⟨#[]⟩, .int .i64 0] := by
  unfold nv vl nK nN nS nO
  rw [if_neg (by omega : ¬ K = 3), if_neg (by omega : ¬ K = 4), if_neg (by omega : ¬ (5 ≤ K ∧ K ≤ 8))]
  by_cases k : K = 0
  · subst k; rfl
  · rw [if_neg (by omega)]

theorem vnum_any (N : Int) (w : World) : Calls Tryd.prog 82 #[.int .u64 N] w fun e w' => e = .returned (.agg #[.int .i64 3, .int .u64 N, .string ⟨#[]⟩, .int .i64 0]) ∧ Below w.heap.size w w' := by
  go_enter Tryd.func82, Tryd.ntmps82
  go_wp2
  exact bodyPost_ret (v := .agg #[.int .i64 3, .int .u64 N, .string ⟨#[]⟩, .int .i64 0]) (by simp [results, Tryd.results82, go_sem]) rfl ⟨rfl, by first | exact (Below.refl _ _).alloc (Nat.le_refl _) _ | skip⟩
theorem vtext_any (S : ByteArray) (w : World) : Calls Tryd.prog 84 #[.string S] w fun e w' => e = .returned (.agg #[.int .i64 4, .int .u64 0, .string S, .int .i64 0]) ∧ Below w.heap.size w w' := by
  go_enter Tryd.func84, Tryd.ntmps84
  go_wp2
  exact bodyPost_ret (v := .agg #[.int .i64 4, .int .u64 0, .string S, .int .i64 0]) (by simp [results, Tryd.results84, go_sem]) rfl ⟨rfl, (Below.refl _ _).alloc (Nat.le_refl _) _⟩

/-- What was there reads as before. -/
theorem bcell {W w1 : World} (hb : Below W.heap.size W w1) : (∀ b o, b < W.heap.size → w1.cell? ⟨b, o, none⟩ = W.cell? ⟨b, o, none⟩) ∧ (∀ b o, b < W.heap.size → w1.frozen? ⟨b, o, none⟩ = W.frozen? ⟨b, o, none⟩) :=
  ⟨fun _ _ h => hb.cell h, fun _ _ h => hb.frozen h⟩

theorem set4 {B b i0 i1 i2 i3 : Nat} {W w1 : World} (h : Below B W w1) (hb : B ≤ b) (v0 v1 v2 v3 : Value) :
    Below B W ((((w1.setCell ⟨b, i0, none⟩ v0).setCell ⟨b, i1, none⟩ v1).setCell ⟨b, i2, none⟩ v2).setCell ⟨b, i3, none⟩ v3) :=
  (((h.setCell (p := ⟨b, i0, none⟩) hb _).setCell (p := ⟨b, i1, none⟩) hb _).setCell (p := ⟨b, i2, none⟩) hb _).setCell (p := ⟨b, i3, none⟩) hb _

set_option maxHeartbeats 1000000 in
theorem normal_any (K N : Int) (S : ByteArray) (O : Int) (w : World) (hN : U64 N) :
    Calls Tryd.prog 74 #[.agg #[.int .i64 K, .int .u64 N, .string S, .int .i64 O]] w fun e w' => e = .returned (nv K N S O) ∧ Below w.heap.size w w' := by
  have hc : K = 3 ∨ K = 4 ∨ (K = 5 ∨ K = 6 ∨ K = 7 ∨ K = 8) ∨ (K = 1 ∨ K = 2) ∨ (K ≤ 0 ∨ 9 ≤ K) := by omega
  rcases hc with c | c | c | c | c
  · subst c
    rw [nv3]
    have HC := fun w => canon_any N w hN
    generalize canonZ N = M at *
    go_enter Tryd.func74, Tryd.ntmps74
    go_wp2_with fail
    refine (HC _).mono ?_
    rintro e w' ⟨rfl, rfl⟩
    go_wp2_with fail
    refine (vnum_any M _).mono ?_
    rintro e w1 ⟨rfl, hb⟩
    obtain ⟨hc, hf⟩ := bcell hb
    go_wp2
    exact bodyPost_ret (v := .agg #[.int .i64 3, .int .u64 M, .string ⟨#[]⟩, .int .i64 0]) (by simp [results, Tryd.results74, go_sem, hc]) rfl ⟨rfl, set4 (((((Below.refl _ _).alloc (Nat.le_refl _) _).alloc (by simp) _)).trans (hb.mono (by simp; omega))) (by omega) _ _ _ _⟩
  · subst c
    rw [nv4]
    go_enter Tryd.func74, Tryd.ntmps74
    go_wp2_with fail
    refine (vtext_any S _).mono ?_
    rintro e w1 ⟨rfl, hb⟩
    obtain ⟨hc, hf⟩ := bcell hb
    go_wp2
    exact bodyPost_ret (v := .agg #[.int .i64 4, .int .u64 0, .string S, .int .i64 0]) (by simp [results, Tryd.results74, go_sem, hc]) rfl ⟨rfl, set4 (((((Below.refl _ _).alloc (Nat.le_refl _) _).alloc (by simp) _)).trans (hb.mono (by simp; omega))) (by omega) _ _ _ _⟩
  · rw [nvO _ _ _ (by omega) (by omega)]
    rcases c with c | c | c | c <;> subst c
    all_goals
      go_enter Tryd.func74, Tryd.ntmps74
      go_wp2
      exact bodyPost_ret (v := .agg #[.int .i64 _, .int .u64 0, .string ⟨#[]⟩, .int .i64 O]) (by simp [results, Tryd.results74, go_sem]) rfl ⟨rfl, ((Below.refl _ _).alloc (Nat.le_refl _) _).alloc (by simp) _⟩
  · rw [nvB _ _ _ c]
    rcases c with c | c <;> subst c
    all_goals
      go_enter Tryd.func74, Tryd.ntmps74
      go_wp2
      exact bodyPost_ret (v := .agg #[.int .i64 _, .int .u64 0, .string ⟨#[]⟩, .int .i64 0]) (by simp [results, Tryd.results74, go_sem]) rfl ⟨rfl, ((Below.refl _ _).alloc (Nat.le_refl _) _).alloc (by simp) _⟩
  · rw [nv0 _ _ _ c]
    rcases c with c | c
    all_goals
      go_enter Tryd.func74, Tryd.ntmps74
      go_wp2
      exact bodyPost_ret (v := .agg #[.int .i64 0, .int .u64 0, .string ⟨#[]⟩, .int .i64 0]) (by simp [results, Tryd.results74, go_sem]) rfl ⟨rfl, ((Below.refl _ _).alloc (Nat.le_refl _) _).alloc (by simp) _⟩

set_option maxHeartbeats 1000000 in
theorem refNormal_any (K N : Int) (S : ByteArray) (O : Int) (w : World) (hN : U64 N) :
    Calls Tryd.prog 71 #[.agg #[.int .i64 K, .int .u64 N, .string S, .int .i64 O]] w fun e w' => e = .returned (nv K N S O) ∧ Below w.heap.size w w' := by
  have hc : K = 3 ∨ K = 4 ∨ (K = 5 ∨ K = 6 ∨ K = 7 ∨ K = 8) ∨ (K = 1 ∨ K = 2) ∨ (K ≤ 0 ∨ 9 ≤ K) := by omega
  rcases hc with c | c | c | c | c
  · subst c
    rw [nv3]
    have HC := fun w => refCanon_any N w hN
    generalize canonZ N = M at *
    go_enter Tryd.func71, Tryd.ntmps71
    go_wp2_with fail
    go_region_with (go_at_call 78; refine (HC _).mono ?_; rintro e w' ⟨rfl, rfl⟩)
    all_goals
      go_wp2
      exact bodyPost_ret (v := .agg #[.int .i64 3, .int .u64 M, .string ⟨#[]⟩, .int .i64 0]) (by simp [results, Tryd.results71, go_sem]) rfl ⟨rfl, (((Below.refl _ _).alloc (Nat.le_refl _) _).alloc (by simp) _).drew⟩
  · subst c
    rw [nv4]
    go_enter Tryd.func71, Tryd.ntmps71
    go_wp2
    exact bodyPost_ret (v := .agg #[.int .i64 4, .int .u64 0, .string S, .int .i64 0]) (by simp [results, Tryd.results71, go_sem]) rfl ⟨rfl, ((Below.refl _ _).alloc (Nat.le_refl _) _).alloc (by simp) _⟩
  · rw [nvO _ _ _ (by omega) (by omega)]
    rcases c with c | c | c | c <;> subst c
    all_goals
      go_enter Tryd.func71, Tryd.ntmps71
      go_wp2
      exact bodyPost_ret (v := .agg #[.int .i64 _, .int .u64 0, .string ⟨#[]⟩, .int .i64 O]) (by simp [results, Tryd.results71, go_sem]) rfl ⟨rfl, ((Below.refl _ _).alloc (Nat.le_refl _) _).alloc (by simp) _⟩
  · rw [nvB _ _ _ c]
    rcases c with c | c <;> subst c
    all_goals
      go_enter Tryd.func71, Tryd.ntmps71
      go_wp2
      exact bodyPost_ret (v := .agg #[.int .i64 _, .int .u64 0, .string ⟨#[]⟩, .int .i64 0]) (by simp [results, Tryd.results71, go_sem]) rfl ⟨rfl, ((Below.refl _ _).alloc (Nat.le_refl _) _).alloc (by simp) _⟩
  · rw [nv0 _ _ _ c]
    have b1 : (K == 1) = false := by simp; omega
    have b2 : (K == 2) = false := by simp; omega
    rcases c with c | c
    all_goals
      go_enter Tryd.func71, Tryd.ntmps71
      go_wp2
      exact bodyPost_ret (v := .agg #[.int .i64 0, .int .u64 0, .string ⟨#[]⟩, .int .i64 0]) (by simp [results, Tryd.results71, go_sem]) rfl ⟨rfl, ((Below.refl _ _).alloc (Nat.le_refl _) _).alloc (by simp) _⟩

end Go.Proofs.YtcblknghkgihcaaDoor
