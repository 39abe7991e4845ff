/-
  Val, Val2, ValMath, PtMath, Pt, Pt2
-/
import Derived.Deep.RegionWith
import Derived.Deep.DeepCutAuto
import Derived.Laws.BitsAllLaws
import Derived.Deep.AppendLies
import Derived.Test.YthmocdabakkfhaaGreatDoorZ09

/-
  Layer 8: a value's plain form; the landed and the reference's Normal, walked.
-/
namespace Go.Proofs.YthmocdabakkfhaaGreatDoor
set_option maxRecDepth 100000
open Go.RowKit Flo

/-- The plain form of a value: its kind, its number, its text, its object. -/
def nK (K : Int) : Int := if 0 ≤ K ∧ K ≤ 8 then K else 0
def nN (K N : Int) : Int := if K = 3 then canonZ N else 0
def nS (K : Int) (S : ByteArray) : ByteArray := if K = 4 then S else ⟨#[]⟩
def nO (K O : Int) : Int := if 5 ≤ K ∧ K ≤ 8 then O else 0
/-- A value. -/
def vl (K N : Int) (S : ByteArray) (O : Int) : Value := .agg #[.int .i64 K, .int .u64 N, .string S, .int .i64 O]
/-- Its plain form. -/
def nv (K N : Int) (S : ByteArray) (O : Int) : Value := vl (nK K) (nN K N) (nS K S) (nO K O)

theorem nv3 (N : Int) (S : ByteArray) (O : Int) : nv 3 N S O = .agg #[.int .i64 3, .int .u64 (canonZ N), .string ⟨#[]⟩, .int .i64 0] := rfl
theorem nv4 (N : Int) (S : ByteArray) (O : Int) : nv 4 N S O = .agg #[.int .i64 4, .int .u64 0, .string S, .int .i64 0] := rfl
theorem nvO {K : Int} (N : Int) (S : ByteArray) (O : Int) (h1 : 5 ≤ K) (h2 : K ≤ 8) : nv K N S O = .agg #[.int .i64 K, .int .u64 0, .string ⟨#[]⟩, .int .i64 O] := by
  unfold nv vl nK nN nS nO
  rw [if_pos (by omega), if_neg (by omega), if_neg (by omega), if_pos (by omega)]
theorem nvB {K : Int} (N : Int) (S : ByteArray) (O : Int) (h : K = 1 ∨ K = 2) : nv K N S O = .agg #[.int .i64 K, .int .u64 0, .string ⟨#[]⟩, .int .i64 0] := by
  unfold nv vl nK nN nS nO
  rw [if_pos (by omega), if_neg (by omega), if_neg (by omega), if_neg (by omega)]
theorem nv0 {K : Int} (N : Int) (S : ByteArray) (O : Int) (h : K ≤ 0 ∨ 9 ≤ K) : nv K N S O = .agg #[.int .i64 0, .int .u64 0, .string ⟨#[]⟩, .int .i64 0] := by
  unfold nv vl nK nN nS nO
  rw [if_neg (by omega : ¬ K = 3), if_neg (by omega : ¬ K = 4), if_neg (by omega : ¬ (5 ≤ K ∧ K ≤ 8))]
  by_cases k : K = 0
  · subst k; rfl
  · rw [if_neg (by omega)]

theorem vnum_any (N : Int) (w : World) : Calls Tryz.prog 54 #[.int .u64 N] w fun e w' => e = .returned (.agg #[.int .i64 3, .int .u64 N, .string ⟨#[]⟩, .int .i64 0]) ∧ Below w.heap.size w w' := by
  go_enter Tryz.func54, Tryz.ntmps54
  go_wp2
  exact bodyPost_ret (v := .agg #[.int .i64 3, .int .u64 N, .string ⟨#[]⟩, .int .i64 0]) (by simp [results, Tryz.results54, go_sem]) rfl ⟨rfl, by first | exact (Below.refl _ _).alloc (Nat.le_refl _) _ | skip⟩
theorem vtext_any (S : ByteArray) (w : World) : Calls Tryz.prog 56 #[.string S] w fun e w' => e = .returned (.agg #[.int .i64 4, .int .u64 0, .string S, .int .i64 0]) ∧ Below w.heap.size w w' := by
  go_enter Tryz.func56, Tryz.ntmps56
  go_wp2
  exact bodyPost_ret (v := .agg #[.int .i64 4, .int .u64 0, .string S, .int .i64 0]) (by simp [results, Tryz.results56, go_sem]) rfl ⟨rfl, (Below.refl _ _).alloc (Nat.le_refl _) _⟩

/-- What was there reads as before. -/
theorem bcell {W w1 : World} (hb : Below W.heap.size W w1) : (∀ b o, b < W.heap.size → w1.cell? ⟨b, o, none⟩ = W.cell? ⟨b, o, none⟩) ∧ (∀ b o, b < W.heap.size → w1.frozen? ⟨b, o, none⟩ = W.frozen? ⟨b, o, none⟩) :=
  ⟨fun _ _ h => hb.cell h, fun _ _ h => hb.frozen h⟩

theorem set4 {B b i0 i1 i2 i3 : Nat} {W w1 : World} (h : Below B W w1) (hb : B ≤ b) (v0 v1 v2 v3 : Value) :
    Below B W ((((w1.setCell ⟨b, i0, none⟩ v0).setCell ⟨b, i1, none⟩ v1).setCell ⟨b, i2, none⟩ v2).setCell ⟨b, i3, none⟩ v3) :=
  (((h.setCell (p := ⟨b, i0, none⟩) hb _).setCell (p := ⟨b, i1, none⟩) hb _).setCell (p := ⟨b, i2, none⟩) hb _).setCell (p := ⟨b, i3, none⟩) hb _

set_option maxHeartbeats 1000000 in
theorem normal_any (K N : Int) (S : ByteArray) (O : Int) (w : World) (hN : U64 N) :
    Calls Tryz.prog 22 #[.agg #[.int .i64 K, .int .u64 N, .string S, .int .i64 O]] w fun e w' => e = .returned (nv K N S O) ∧ Below w.heap.size w w' := by
  have hc : K = 3 ∨ K = 4 ∨ (K = 5 ∨ K = 6 ∨ K = 7 ∨ K = 8) ∨ (K = 1 ∨ K = 2) ∨ (K ≤ 0 ∨ 9 ≤ K) := by omega
  rcases hc with c | c | c | c | c
  · subst c
    rw [nv3]
    have HC := fun w => canon_any N w hN
    generalize canonZ N = M at *
    go_enter Tryz.func22, Tryz.ntmps22
    go_wp2_with fail
    refine (HC _).mono ?_
    rintro e w' ⟨rfl, rfl⟩
    go_wp2_with fail
    refine (vnum_any M _).mono ?_
    rintro e w1 ⟨rfl, hb⟩
    obtain ⟨hc, hf⟩ := bcell hb
    go_wp2
    exact bodyPost_ret (v := .agg #[.int .i64 3, .int .u64 M, .string ⟨#[]⟩, .int .i64 0]) (by simp [results, Tryz.results22, go_sem, hc]) rfl ⟨rfl, set4 (((((Below.refl _ _).alloc (Nat.le_refl _) _).alloc (by simp) _)).trans (hb.mono (by simp; omega))) (by omega) _ _ _ _⟩
  · subst c
    rw [nv4]
    go_enter Tryz.func22, Tryz.ntmps22
    go_wp2_with fail
    refine (vtext_any S _).mono ?_
    rintro e w1 ⟨rfl, hb⟩
    obtain ⟨hc, hf⟩ := bcell hb
    go_wp2
    exact bodyPost_ret (v := .agg #[.int .i64 4, .int .u64 0, .string S, .int .i64 0]) (by simp [results, Tryz.results22, go_sem, hc]) rfl ⟨rfl, set4 (((((Below.refl _ _).alloc (Nat.le_refl _) _).alloc (by simp) _)).trans (hb.mono (by simp; omega))) (by omega) _ _ _ _⟩
  · rw [nvO _ _ _ (by omega) (by omega)]
    rcases c with c | c | c | c <;> subst c
    all_goals
      go_enter Tryz.func22, Tryz.ntmps22
      go_wp2
      exact bodyPost_ret (v := .agg #[.int .i64 _, .int .u64 0, .string ⟨#[]⟩, .int .i64 O]) (by simp [results, Tryz.results22, go_sem]) rfl ⟨rfl, ((Below.refl _ _).alloc (Nat.le_refl _) _).alloc (by simp) _⟩
  · rw [nvB _ _ _ c]
    rcases c with c | c <;> subst c
    all_goals
      go_enter Tryz.func22, Tryz.ntmps22
      go_wp2
      exact bodyPost_ret (v := .agg #[.int .i64 _, .int .u64 0, .string ⟨#[]⟩, .int .i64 0]) (by simp [results, Tryz.results22, go_sem]) rfl ⟨rfl, ((Below.refl _ _).alloc (Nat.le_refl _) _).alloc (by simp) _⟩
  · rw [nv0 _ _ _ c]
    rcases c with c | c
    all_goals
      go_enter Tryz.func22, Tryz.ntmps22
      go_wp2
      exact bodyPost_ret (v := .agg #[.int .i64 0, .int .u64 0, .string ⟨#[]⟩, .int .i64 0]) (by simp [results, Tryz.results22, go_sem]) rfl ⟨rfl, ((Below.refl _ _).alloc (Nat.le_refl _) _).alloc (by simp) _⟩

set_option maxHeartbeats 1000000 in
theorem refNormal_any (K N : Int) (S : ByteArray) (O : Int) (w : World) (hN : U64 N) :
    Calls Tryz.prog 63 #[.agg #[.int .i64 K, .int .u64 N, .string S, .int .i64 O]] w fun e w' => e = .returned (nv K N S O) ∧ Below w.heap.size w w' := by
  have hc : K = 3 ∨ K = 4 ∨ (K = 5 ∨ K = 6 ∨ K = 7 ∨ K = 8) ∨ (K = 1 ∨ K = 2) ∨ (K ≤ 0 ∨ 9 ≤ K) := by omega
  rcases hc with c | c | c | c | c
  · subst c
    rw [nv3]
    have HC := fun w => refCanon_any N w hN
    generalize canonZ N = M at *
    go_enter Tryz.func63, Tryz.ntmps63
    go_wp2_with fail
    go_region_with (go_at_call 69; refine (HC _).mono ?_; rintro e w' ⟨rfl, rfl⟩)
    all_goals
      go_wp2
      exact bodyPost_ret (v := .agg #[.int .i64 3, .int .u64 M, .string ⟨#[]⟩, .int .i64 0]) (by simp [results, Tryz.results63, go_sem]) rfl ⟨rfl, (((Below.refl _ _).alloc (Nat.le_refl _) _).alloc (by simp) _).drew⟩
  · subst c
    rw [nv4]
    go_enter Tryz.func63, Tryz.ntmps63
    go_wp2
    exact bodyPost_ret (v := .agg #[.int .i64 4, .int .u64 0, .string S, .int .i64 0]) (by simp [results, Tryz.results63, go_sem]) rfl ⟨rfl, ((Below.refl _ _).alloc (Nat.le_refl _) _).alloc (by simp) _⟩
  · rw [nvO _ _ _ (by omega) (by omega)]
    rcases c with c | c | c | c <;> subst c
    all_goals
      go_enter Tryz.func63, Tryz.ntmps63
      go_wp2
      exact bodyPost_ret (v := .agg #[.int .i64 _, .int .u64 0, .string ⟨#[]⟩, .int .i64 O]) (by simp [results, Tryz.results63, go_sem]) rfl ⟨rfl, ((Below.refl _ _).alloc (Nat.le_refl _) _).alloc (by simp) _⟩
  · rw [nvB _ _ _ c]
    rcases c with c | c <;> subst c
    all_goals
      go_enter Tryz.func63, Tryz.ntmps63
      go_wp2
      exact bodyPost_ret (v := .agg #[.int .i64 _, .int .u64 0, .string ⟨#[]⟩, .int .i64 0]) (by simp [results, Tryz.results63, go_sem]) rfl ⟨rfl, ((Below.refl _ _).alloc (Nat.le_refl _) _).alloc (by simp) _⟩
  · rw [nv0 _ _ _ c]
    have b1 : (K == 1) = false := by simp; omega
    have b2 : (K == 2) = false := by simp; omega
    rcases c with c | c
    all_goals
      go_enter Tryz.func63, Tryz.ntmps63
      go_wp2
      exact bodyPost_ret (v := .agg #[.int .i64 0, .int .u64 0, .string ⟨#[]⟩, .int .i64 0]) (by simp [results, Tryz.results63, go_sem]) rfl ⟨rfl, ((Below.refl _ _).alloc (Nat.le_refl _) _).alloc (by simp) _⟩

end Go.Proofs.YthmocdabakkfhaaGreatDoor

/-
  Layer 8: which values are the same; the landed and the reference's Same, walked.
-/
namespace Go.Proofs.YthmocdabakkfhaaGreatDoor
set_option maxRecDepth 100000
open Go.RowKit Flo

theorem vset_same (w : World) (b i : Nat) (v u : Value) (h : w.cell? ⟨b, i, none⟩ = some u) : (w.setCell ⟨b, i, none⟩ v).cell? ⟨b, i, none⟩ = some v :=
  World.cell?_setCell_same _ _ _ h
theorem vset_far (w : World) (b i j : Nat) (v : Value) (h : i ≠ j) : (w.setCell ⟨b, i, none⟩ v).cell? ⟨b, j, none⟩ = w.cell? ⟨b, j, none⟩ :=
  World.cell?_setCell_other w _ _ v (fun e => h (congrArg Addr.off e))
theorem vset_off (w : World) (b c i j : Nat) (v : Value) (h : b ≠ c) : (w.setCell ⟨b, i, none⟩ v).cell? ⟨c, j, none⟩ = w.cell? ⟨c, j, none⟩ :=
  World.cell?_setCell_other w _ _ v (fun e => h (congrArg Addr.block e))
/-- A value that is stored is there. -/
theorem stored4 (w x : World) (b : Nat) (v0 v1 v2 v3 u0 u1 u2 u3 : Value) (h0 : w.cell? ⟨b, 0, none⟩ = some u0) (h1 : w.cell? ⟨b, 1, none⟩ = some u1) (h2 : w.cell? ⟨b, 2, none⟩ = some u2) (h3 : w.cell? ⟨b, 3, none⟩ = some u3)
    (hx : x = (((w.setCell ⟨b, 0, none⟩ v0).setCell ⟨b, 1, none⟩ v1).setCell ⟨b, 2, none⟩ v2).setCell ⟨b, 3, none⟩ v3) :
    (x.cell? ⟨b, 0, none⟩ = some v0 ∧ x.cell? ⟨b, 1, none⟩ = some v1 ∧ x.cell? ⟨b, 2, none⟩ = some v2 ∧ x.cell? ⟨b, 3, none⟩ = some v3) ∧ ∀ c i, b ≠ c → x.cell? ⟨c, i, none⟩ = w.cell? ⟨c, i, none⟩ := by
  subst hx
  have g0 := vset_same w b 0 v0 u0 h0
  have f1 := (vset_far w b 0 1 v0 (by decide)).trans h1
  have f2 := (vset_far w b 0 2 v0 (by decide)).trans h2
  have f3 := (vset_far w b 0 3 v0 (by decide)).trans h3
  have fo := fun c i (h : b ≠ c) => vset_off w b c 0 i v0 h
  generalize w.setCell ⟨b, 0, none⟩ v0 = w1 at *
  have k1 := vset_same w1 b 1 v1 u1 f1
  have k0 := (vset_far w1 b 1 0 v1 (by decide)).trans g0
  have k2 := (vset_far w1 b 1 2 v1 (by decide)).trans f2
  have k3 := (vset_far w1 b 1 3 v1 (by decide)).trans f3
  have ko := fun c i (h : b ≠ c) => (vset_off w1 b c 1 i v1 h).trans (fo c i h)
  generalize w1.setCell ⟨b, 1, none⟩ v1 = w2 at *
  have m2 := vset_same w2 b 2 v2 u2 k2
  have m0 := (vset_far w2 b 2 0 v2 (by decide)).trans k0
  have m1 := (vset_far w2 b 2 1 v2 (by decide)).trans k1
  have m3 := (vset_far w2 b 2 3 v2 (by decide)).trans k3
  have mo := fun c i (h : b ≠ c) => (vset_off w2 b c 2 i v2 h).trans (ko c i h)
  generalize w2.setCell ⟨b, 2, none⟩ v2 = w3 at *
  exact ⟨⟨(vset_far w3 b 3 0 v3 (by decide)).trans m0, (vset_far w3 b 3 1 v3 (by decide)).trans m1, (vset_far w3 b 3 2 v3 (by decide)).trans m2, vset_same w3 b 3 v3 u3 m3⟩, fun c i h => (vset_off w3 b c 3 i v3 h).trans (mo c i h)⟩

/-- Texts with the same bytes are the same. -/
theorem toList_loop (s : ByteArray) : ∀ (n i : Nat) (r : List UInt8), s.size - i = n → ByteArray.toList.loop s i r = r.reverse ++ s.data.toList.drop i := by
  intro n
  induction n with
  | zero =>
    intro i r h
    unfold ByteArray.toList.loop
    rw [if_neg (by omega), List.drop_eq_nil_of_le (by simp only [Array.length_toList]; exact Nat.le_of_sub_eq_zero h), List.append_nil]
  | succ n ih =>
    intro i r h
    unfold ByteArray.toList.loop
    have hi : i < s.data.toList.length := by simp only [Array.length_toList]; exact Nat.lt_of_sub_eq_succ h
    rw [if_pos (by omega), ih (i + 1) _ (by omega), List.reverse_cons, List.append_assoc, List.drop_eq_getElem_cons hi]
    congr 1
    have : s.get! i = s.data.toList[i] := by
      simp only [ByteArray.get!, Array.getElem_toList]
      exact getElem!_pos s.data i (by simpa using hi)
    rw [this]; rfl
theorem toList_data (s : ByteArray) : s.toList = s.data.toList := by
  unfold ByteArray.toList
  rw [toList_loop s _ 0 [] rfl]; rfl
theorem text_inj {s t : ByteArray} (h : s.toList = t.toList) : s = t := by
  rw [toList_data, toList_data] at h
  cases s; cases t; congr 1; exact Array.toList_inj.1 h
/-- Whether two plain forms are the same. -/
def sameV (k n : Int) (s : ByteArray) (o : Int) (k' n' : Int) (s' : ByteArray) (o' : Int) : Bool := if k = 3 ∧ k' = 3 then equalB n n' else decide (k = k' ∧ n = n' ∧ s = s' ∧ o = o')
/-- Whether two values are the same. -/
def sameB (K N : Int) (S : ByteArray) (O : Int) (K' N' : Int) (S' : ByteArray) (O' : Int) : Bool := sameV (nK K) (nN K N) (nS K S) (nO K O) (nK K') (nN K' N') (nS K' S') (nO K' O')
theorem nK_eq {K : Int} {j : Int} (hj : 1 ≤ j) : nK K = j → K = j := by unfold nK; split <;> omega
theorem nN_zero {K N : Int} (h : nK K ≠ 3) : nN K N = 0 := by
  unfold nN; rw [if_neg]; intro e; subst e; exact h rfl
theorem canon_u64 {N : Int} (h : U64 N) : U64 (canonZ N) := by
  unfold canonZ; split
  · exact ⟨by decide, by decide⟩
  · exact h
theorem nN_u64 {K N : Int} (h : U64 N) : U64 (nN K N) := by
  unfold nN; split
  · exact canon_u64 h
  · exact ⟨by decide, by decide⟩

set_option maxHeartbeats 4000000 in
theorem same_any (K N : Int) (S : ByteArray) (O : Int) (K' N' : Int) (S' : ByteArray) (O' : Int) (w : World) (hN : U64 N) (hN' : U64 N') :
    Calls Tryz.prog 57 #[.agg #[.int .i64 K, .int .u64 N, .string S, .int .i64 O], .agg #[.int .i64 K', .int .u64 N', .string S', .int .i64 O']] w fun e w' => e = .returned (.bool (sameB K N S O K' N' S' O')) ∧ Below w.heap.size w w' := by
  have H0 : Hid ((nK K ≠ 3 → nN K N = 0) ∧ (nK K' ≠ 3 → nN K' N' = 0)) := ⟨nN_zero, nN_zero⟩
  have HE : Hid (∀ w, Calls Tryz.prog 74 #[.int .u64 (nN K N), .int .u64 (nN K' N')] w fun e w' => e = .returned (.bool (equalB (nN K N) (nN K' N'))) ∧ w' = w) := fun w => equal_any _ _ w (nN_u64 hN) (nN_u64 hN')
  unfold sameB
  go_enter Tryz.func57, Tryz.ntmps57
  go_wp2_with fail
  go_cut [4] (fun t wx => t = .bool false ∧ wx.cell? ⟨w.heap.size, 0, none⟩ = some (.int .i64 (nK K)) ∧ wx.cell? ⟨w.heap.size, 1, none⟩ = some (.int .u64 (nN K N)) ∧ wx.cell? ⟨w.heap.size, 2, none⟩ = some (.string (nS K S)) ∧ wx.cell? ⟨w.heap.size, 3, none⟩ = some (.int .i64 (nO K O)) ∧
    wx.cell? ⟨w.heap.size + 1, 0, none⟩ = some (.int .i64 (nK K')) ∧ wx.cell? ⟨w.heap.size + 1, 1, none⟩ = some (.int .u64 (nN K' N')) ∧ wx.cell? ⟨w.heap.size + 1, 2, none⟩ = some (.string (nS K' S')) ∧ wx.cell? ⟨w.heap.size + 1, 3, none⟩ = some (.int .i64 (nO K' O')) ∧ Hid (Below w.heap.size w wx))
  case first =>
    go_region_with (go_at_call 22; refine (normal_any _ _ _ _ _ (by assumption)).mono ?_; rintro e wn ⟨he, hb⟩; unfold nv vl at he; subst he; obtain ⟨hc, hf⟩ := bcell hb; have hz0 : w.heap.size < wn.heap.size := (by have := hb.size; (try simp at this); omega); have hz1 : w.heap.size + 1 < wn.heap.size := (by have := hb.size; (try simp at this); omega))
    all_goals
      rename_i wm hbm hcm hfm hzm0 hzm1
      have a0 : wn.cell? ⟨w.heap.size, 0, none⟩ = some (.int .i64 K) := by rw [hc _ _ hzm0, hcm _ _ (by simp; try omega)]; simp
      have a1 : wn.cell? ⟨w.heap.size, 1, none⟩ = some (.int .u64 N) := by rw [hc _ _ hzm0, hcm _ _ (by simp; try omega)]; simp
      have a2 : wn.cell? ⟨w.heap.size, 2, none⟩ = some (.string S) := by rw [hc _ _ hzm0, hcm _ _ (by simp; try omega)]; simp
      have a3 : wn.cell? ⟨w.heap.size, 3, none⟩ = some (.int .i64 O) := by rw [hc _ _ hzm0, hcm _ _ (by simp; try omega)]; simp
      have b0 : wn.cell? ⟨w.heap.size + 1, 0, none⟩ = some (.int .i64 K') := by rw [hc _ _ hzm1, hcm _ _ (by simp; try omega)]; simp
      have b1 : wn.cell? ⟨w.heap.size + 1, 1, none⟩ = some (.int .u64 N') := by rw [hc _ _ hzm1, hcm _ _ (by simp; try omega)]; simp
      have b2 : wn.cell? ⟨w.heap.size + 1, 2, none⟩ = some (.string S') := by rw [hc _ _ hzm1, hcm _ _ (by simp; try omega)]; simp
      have b3 : wn.cell? ⟨w.heap.size + 1, 3, none⟩ = some (.int .i64 O') := by rw [hc _ _ hzm1, hcm _ _ (by simp; try omega)]; simp
      have hB : Below w.heap.size w wn := Below.trans (by first | exact (((Below.refl _ _).alloc (Nat.le_refl _) _).alloc (by simp) _).drew.trans (hbm.mono (by simp; omega)) | exact (((Below.refl _ _).alloc (Nat.le_refl _) _).alloc (by simp) _).trans (hbm.mono (by simp; omega)) | exact ((((Below.refl _ _).alloc (Nat.le_refl _) _).alloc (by simp) _).drew.drew).trans (hbm.mono (by simp; omega))) (by first | exact hb.mono (by omega) | exact (Below.refl _ _).drew.trans (hb.mono (by simp; omega)))
      have q1 := stored4 wn _ w.heap.size (.int .i64 (nK K)) (.int .u64 (nN K N)) (.string (nS K S)) (.int .i64 (nO K O)) _ _ _ _ a0 a1 a2 a3 rfl
      have hB1 := set4 (i0 := 0) (i1 := 1) (i2 := 2) (i3 := 3) hB (Nat.le_refl _) (.int .i64 (nK K)) (.int .u64 (nN K N)) (.string (nS K S)) (.int .i64 (nO K O))
      generalize ((((wn.setCell ⟨w.heap.size, 0, none⟩ (.int .i64 (nK K))).setCell ⟨w.heap.size, 1, none⟩ (.int .u64 (nN K N))).setCell ⟨w.heap.size, 2, none⟩ (.string (nS K S))).setCell ⟨w.heap.size, 3, none⟩ (.int .i64 (nO K O))) = wp at q1 hB1 ⊢
      have q2 := stored4 wp _ (w.heap.size + 1) (.int .i64 (nK K')) (.int .u64 (nN K' N')) (.string (nS K' S')) (.int .i64 (nO K' O')) _ _ _ _ ((q1.2 _ _ (by omega)).trans b0) ((q1.2 _ _ (by omega)).trans b1) ((q1.2 _ _ (by omega)).trans b2) ((q1.2 _ _ (by omega)).trans b3) rfl
      have hB2 := set4 (b := w.heap.size + 1) (i0 := 0) (i1 := 1) (i2 := 2) (i3 := 3) hB1 (by omega) (.int .i64 (nK K')) (.int .u64 (nN K' N')) (.string (nS K' S')) (.int .i64 (nO K' O'))
      generalize ((((wp.setCell ⟨w.heap.size + 1, 0, none⟩ (.int .i64 (nK K'))).setCell ⟨w.heap.size + 1, 1, none⟩ (.int .u64 (nN K' N'))).setCell ⟨w.heap.size + 1, 2, none⟩ (.string (nS K' S'))).setCell ⟨w.heap.size + 1, 3, none⟩ (.int .i64 (nO K' O'))) = wq at q2 hB2 ⊢
      go_wp2_with fail
      go_meet
      exact ⟨rfl, (q2.2 _ _ (by omega)).trans q1.1.1, (q2.2 _ _ (by omega)).trans q1.1.2.1, (q2.2 _ _ (by omega)).trans q1.1.2.2.1, (q2.2 _ _ (by omega)).trans q1.1.2.2.2, q2.1.1, q2.1.2.1, q2.1.2.2.1, q2.1.2.2.2, hB2⟩
  case rest =>
    obtain ⟨rfl, a0, a1, a2, a3, b0, b1, b2, b3, HB⟩ := hcut
    by_cases c3 : (nK K) = 3 ∧ (nK K') = 3
    · have hv : Hid (sameV (nK K) (nN K N) (nS K S) (nO K O) (nK K') (nN K' N') (nS K' S') (nO K' O') = equalB (nN K N) (nN K' N')) := if_pos c3
      generalize equalB (nN K N) (nN K' N') = r at *
      obtain ⟨d1, d2⟩ := c3
      go_wp2_with fail
      refine (HE.out _).mono ?_
      rintro e w1 ⟨rfl, rfl⟩
      go_wp2
      go_ret
      exact ⟨ret_bool hv.out.symm, HB.out⟩
    · have hv : sameV (nK K) (nN K N) (nS K S) (nO K O) (nK K') (nN K' N') (nS K' S') (nO K' O') = decide ((nK K) = (nK K') ∧ (nN K N) = (nN K' N') ∧ (nS K S) = (nS K' S') ∧ (nO K O) = (nO K' O')) := if_neg c3
      by_cases ck : (nK K) = 3
      · have ck' : ¬ (nK K') = 3 := fun h => c3 ⟨ck, h⟩
        have cb : ((nK K') == 3) = false := by simpa using ck'
        rw [decide_eq_false (fun h => ck' (h.1.symm.trans ck))] at hv
        have HV : Hid (_ = _) := hv
        clear hv
        go_wp2
        all_goals
          go_ret
          exact ⟨by first | exact ret_bool HV.out.symm | (exfalso; omega), HB.out⟩
      · have cb : ((nK K) == 3) = false := by simpa using ck
        by_cases ce : (nK K) = (nK K') ∧ (nN K N) = (nN K' N') ∧ (nS K S) = (nS K' S') ∧ (nO K O) = (nO K' O')
        · rw [decide_eq_true ce] at hv
          have HV : Hid (_ = _) := hv
          clear hv
          obtain ⟨e1, e2, e3, e4⟩ := ce
          go_wp2
          all_goals
            go_ret
            exact ⟨ret_bool HV.out.symm, HB.out⟩
        · rw [decide_eq_false ce] at hv
          have HV : Hid (_ = _) := hv
          have HCE : Hid (¬ ((nK K) = (nK K') ∧ (nN K N) = (nN K' N') ∧ (nS K S) = (nS K' S') ∧ (nO K O) = (nO K' O'))) := ce
          clear ce c3 hv
          go_wp2
          all_goals
            go_ret
            exact ⟨by first | exact ret_bool HV.out.symm | (exfalso; have q := HCE.out; first | exact q ⟨by assumption, by assumption, text_inj (by assumption), by assumption⟩ | exact q ⟨by first | assumption | exact text_inj (by assumption), by assumption⟩ | (clear HV; simp_all)), HB.out⟩

end Go.Proofs.YthmocdabakkfhaaGreatDoor

/-
  Layer 8: plain mathematics of values: keys, and which values are the same.
-/
namespace Go.Proofs.YthmocdabakkfhaaGreatDoor
set_option maxRecDepth 100000
open Go.RowKit Flo

/-- Whether a value has a key, and its number there. -/
def kok (K N : Int) : Bool := !decide (nK K = 0) && !(decide (K = 3) && nanB N)
def kN (K N : Int) : Int := if mag (nN K N) = 0 then 0 else nN K N
/-- A value's key, or the zero value. -/
def yK (K N : Int) : Int := if kok K N then nK K else 0
def yN (K N : Int) : Int := if kok K N then kN K N else 0
def yS (K N : Int) (S : ByteArray) : ByteArray := if kok K N then nS K S else ⟨#[]⟩
def yO (K N O : Int) : Int := if kok K N then nO K O else 0

theorem nK_nK (K : Int) : nK (nK K) = nK K := by
  by_cases h : 0 ≤ K ∧ K ≤ 8
  · have e : nK K = K := if_pos h
    rw [e, e]
  · have e : nK K = 0 := if_neg h
    rw [e]; rfl
theorem nK_3 (K : Int) : nK K = 3 ↔ K = 3 := by unfold nK; split <;> omega
theorem nK_0 (K : Int) : nK K = 0 ↔ (K ≤ 0 ∨ 9 ≤ K) := by unfold nK; split <;> omega
theorem nK_bd (K : Int) : 0 ≤ nK K ∧ nK K ≤ 8 := by unfold nK; split <;> omega
theorem nK_of {K : Int} (h : nK K ≠ 0) : nK K = K := by unfold nK at *; split <;> simp_all
theorem canon_canon (N : Int) : canonZ (canonZ N) = canonZ N := by
  unfold canonZ
  cases h : nanB N
  · simp [h]
  · have : nanB 9221120237041090560 = true := by decide
    simp [this]
theorem nan_canon (N : Int) : nanB (canonZ N) = nanB N := by
  unfold canonZ
  cases h : nanB N
  · simp [h]
  · have : nanB 9221120237041090560 = true := by decide
    simp [this]
theorem nN_nN (K N : Int) : nN (nK K) (nN K N) = nN K N := by
  unfold nN
  by_cases h : K = 3
  · subst h; rw [if_pos rfl, if_pos (by rfl), canon_canon]
  · rw [if_neg h, if_neg (by rw [nK_3]; exact h)]
theorem nS_nS (K : Int) (S : ByteArray) : nS (nK K) (nS K S) = nS K S := by
  unfold nS
  by_cases h : K = 4
  · subst h; rw [if_pos rfl, if_pos (by rfl)]
  · rw [if_neg h]; split <;> rfl
theorem nO_nO (K O : Int) : nO (nK K) (nO K O) = nO K O := by
  unfold nO
  by_cases h : 5 ≤ K ∧ K ≤ 8
  · rw [if_pos h, if_pos (by unfold nK; split <;> omega)]
  · rw [if_neg h]; split <;> rfl
theorem nil_form {K : Int} (N : Int) (S : ByteArray) (O : Int) (h : nK K = 0) : nN K N = 0 ∧ nS K S = ⟨#[]⟩ ∧ nO K O = 0 := by
  rw [nK_0] at h
  unfold nN nS nO
  exact ⟨if_neg (by omega), if_neg (by omega), if_neg (by omega)⟩
theorem kN_plain {K : Int} (N : Int) (h : K ≠ 3) : kN K N = 0 ∧ nN K N = 0 := by
  have : nN K N = 0 := by unfold nN; exact if_neg h
  exact ⟨by unfold kN; rw [this]; rfl, this⟩
theorem kok_plain {K : Int} (N : Int) (h : K ≠ 3) : kok K N = true ↔ nK K ≠ 0 := by
  unfold kok; simp [h]
theorem kok_3 (N : Int) : kok 3 N = !nanB N := by unfold kok; simp [show nK 3 = 3 from rfl]
theorem kN_3 {N : Int} (h : nanB N = false) : kN 3 N = if mag N = 0 then 0 else N := by
  have : nN 3 N = N := by unfold nN canonZ; rw [if_pos rfl, h]; rfl
  unfold kN; rw [this]
/-- Numbers that are equal are those with the same key. -/
theorem equal_key {N M : Int} (hN : U64 N) (hM : U64 M) : equalB (canonZ N) (canonZ M) = true ↔ (nanB N = false ∧ nanB M = false ∧ (if mag N = 0 then 0 else N) = (if mag M = 0 then 0 else M)) := by
  unfold equalB
  rw [nan_canon, nan_canon]
  cases hn : nanB N <;> cases hm : nanB M <;> simp
  have e1 : canonZ N = N := by unfold canonZ; rw [hn]; rfl
  have e2 : canonZ M = M := by unfold canonZ; rw [hm]; rfl
  rw [e1, e2]
  obtain ⟨a1, a2⟩ := hN
  obtain ⟨b1, b2⟩ := hM
  unfold sv mag
  constructor
  · intro h
    split at h <;> split at h <;> split <;> split <;> omega
  · intro h
    split at h <;> split at h <;> split <;> split <;> omega
/-- Two values are the same just where they have the same key, or are both Nil. -/
theorem same_key {K N : Int} {S : ByteArray} {O K' N' : Int} {S' : ByteArray} {O' : Int} (hN : U64 N) (hN' : U64 N') :
    sameB K N S O K' N' S' O' = true ↔ ((kok K N = true ∧ kok K' N' = true ∧ nK K = nK K' ∧ kN K N = kN K' N' ∧ nS K S = nS K' S' ∧ nO K O = nO K' O') ∨ (nK K = 0 ∧ nK K' = 0)) := by
  unfold sameB sameV
  by_cases c : K = 3 ∧ K' = 3
  · obtain ⟨rfl, rfl⟩ := c
    rw [if_pos ⟨rfl, rfl⟩, show nN 3 N = canonZ N from rfl, show nN 3 N' = canonZ N' from rfl, equal_key hN hN', kok_3, kok_3]
    constructor
    · rintro ⟨h1, h2, h3⟩
      left
      rw [h1, h2, kN_3 h1, kN_3 h2]
      exact ⟨rfl, rfl, rfl, h3, rfl, rfl⟩
    · rintro (⟨h1, h2, _, h3, _, _⟩ | ⟨h, _⟩)
      · have g1 : nanB N = false := by simpa using h1
        have g2 : nanB N' = false := by simpa using h2
        rw [kN_3 g1, kN_3 g2] at h3
        exact ⟨g1, g2, h3⟩
      · exact absurd h (by decide)
  · rw [if_neg (by rw [nK_3, nK_3]; exact c), decide_eq_true_iff]
    by_cases c1 : K = 3
    · have c2 : K' ≠ 3 := fun h => c ⟨c1, h⟩
      have h3 : nK K = 3 := (nK_3 K).2 c1
      have h4 : nK K' ≠ 3 := fun h => c2 ((nK_3 K').1 h)
      constructor
      · rintro ⟨h, _⟩; omega
      · rintro (⟨_, _, h, _⟩ | ⟨h, _⟩) <;> omega
    · by_cases c2 : K' = 3
      · have h3 : nK K' = 3 := (nK_3 K').2 c2
        have h4 : nK K ≠ 3 := fun h => c1 ((nK_3 K).1 h)
        constructor
        · rintro ⟨h, _⟩; omega
        · rintro (⟨_, _, h, _⟩ | ⟨_, h⟩) <;> omega
      · obtain ⟨k1, k2⟩ := kN_plain N c1
        obtain ⟨k3, k4⟩ := kN_plain N' c2
        rw [k1, k2, k3, k4, kok_plain N c1, kok_plain N' c2]
        constructor
        · rintro ⟨h1, _, h2, h3⟩
          by_cases z : nK K = 0
          · right; exact ⟨z, by omega⟩
          · left; exact ⟨z, by omega, h1, rfl, h2, h3⟩
        · rintro (⟨_, _, h1, _, h2, h3⟩ | ⟨h1, h2⟩)
          · exact ⟨h1, rfl, h2, h3⟩
          · obtain ⟨_, a2, a3⟩ := nil_form N S O h1
            obtain ⟨_, b2, b3⟩ := nil_form N' S' O' h2
            exact ⟨by omega, rfl, by rw [a2, b2], by rw [a3, b3]⟩
theorem kok_nil {K N : Int} (h : kok K N = true) : nK K ≠ 0 := by
  unfold kok at h; simp at h; exact h.1
theorem same_symm {K N : Int} {S : ByteArray} {O K' N' : Int} {S' : ByteArray} {O' : Int} (hN : U64 N) (hN' : U64 N') : sameB K' N' S' O' K N S O = sameB K N S O K' N' S' O' := by
  rw [Bool.eq_iff_iff, same_key hN hN', same_key hN' hN]
  constructor
  · rintro (⟨a, b, c, d, e, f⟩ | ⟨a, b⟩)
    · exact Or.inl ⟨b, a, c.symm, d.symm, e.symm, f.symm⟩
    · exact Or.inr ⟨b, a⟩
  · rintro (⟨a, b, c, d, e, f⟩ | ⟨a, b⟩)
    · exact Or.inl ⟨b, a, c.symm, d.symm, e.symm, f.symm⟩
    · exact Or.inr ⟨b, a⟩
theorem same_trans {K N : Int} {S : ByteArray} {O K' N' : Int} {S' : ByteArray} {O' K2 N2 : Int} {S2 : ByteArray} {O2 : Int} (hN : U64 N) (hN' : U64 N') (hN2 : U64 N2) (h1 : sameB K N S O K' N' S' O' = true) (h2 : sameB K' N' S' O' K2 N2 S2 O2 = true) : sameB K N S O K2 N2 S2 O2 = true := by
  rw [same_key hN hN'] at h1
  rw [same_key hN' hN2] at h2
  rw [same_key hN hN2]
  rcases h1 with ⟨a, b, c, d, e, f⟩ | ⟨a, b⟩
  · rcases h2 with ⟨a', b', c', d', e', f'⟩ | ⟨a', b'⟩
    · exact Or.inl ⟨a, b', c.trans c', d.trans d', e.trans e', f.trans f'⟩
    · exact absurd a' (kok_nil b)
  · rcases h2 with ⟨a', b', c', d', e', f'⟩ | ⟨a', b'⟩
    · exact absurd b (kok_nil a')
    · exact Or.inr ⟨a, b'⟩
theorem kN_u64 {K N : Int} (h : U64 N) : U64 (kN K N) := by
  unfold kN; split
  · exact ⟨by decide, by decide⟩
  · exact nN_u64 h
/-- Keys of keys. -/
theorem key_key {K N : Int} (S : ByteArray) (O : Int) (h : kok K N = true) : kok (nK K) (kN K N) = true ∧ nK (nK K) = nK K ∧ kN (nK K) (kN K N) = kN K N ∧ nS (nK K) (nS K S) = nS K S ∧ nO (nK K) (nO K O) = nO K O := by
  refine ⟨?_, nK_nK K, ?_, nS_nS K S, nO_nO K O⟩
  · by_cases c : K = 3
    · subst c
      rw [kok_3] at h
      have g : nanB N = false := by simpa using h
      rw [show nK 3 = 3 from rfl, kok_3, kN_3 g]
      split
      · decide
      · simpa using g
    · rw [kok_plain _ (by rw [Ne, nK_3]; exact c), nK_nK]
      exact kok_nil h
  · by_cases c : K = 3
    · subst c
      rw [kok_3] at h
      have g : nanB N = false := by simpa using h
      rw [show nK 3 = 3 from rfl, kN_3 g]
      split
      · decide
      · next z => rw [kN_3 g, if_neg z]
    · rw [(kN_plain N c).1]
      exact (kN_plain 0 (by rw [Ne, nK_3]; exact c)).1
/-- The plain form again. -/
theorem kok_norm (K N : Int) : kok (nK K) (nN K N) = kok K N := by
  by_cases c : K = 3
  · subst c
    rw [show nK 3 = 3 from rfl, show nN 3 N = canonZ N from rfl, kok_3, kok_3, nan_canon]
  · rw [Bool.eq_iff_iff, kok_plain _ (by rw [Ne, nK_3]; exact c), kok_plain _ c, nK_nK]
theorem kN_norm (K N : Int) : kN (nK K) (nN K N) = kN K N := by unfold kN; rw [nN_nN]

end Go.Proofs.YthmocdabakkfhaaGreatDoor

/-
  Plain mathematics of parts of 32 bits. No Go in sight.
-/
namespace Go.Proofs.YthmocdabakkfhaaGreatDoor.Pt
set_option maxRecDepth 100000

/-- What parts stand for, the lowest first. -/
def pv : List Nat → Nat
  | [] => 0
  | d :: r => d + 4294967296 * pv r
def Sm (ds : List Nat) : Prop := ∀ d ∈ ds, d < 4294967296
/-- No nought at the top. -/
def Tr (ds : List Nat) : Prop := ds.length = 0 ∨ 4294967296 ^ (ds.length - 1) ≤ pv ds
/-- How many bits a number has. -/
def bl (n : Nat) : Nat := if n = 0 then 0 else n.log2 + 1

theorem rpos (k : Nat) : 0 < 4294967296 ^ k := Nat.pow_pos (by decide)
theorem pow32 (k : Nat) : 4294967296 ^ k = 2 ^ (32 * k) := by rw [Nat.pow_mul]
theorem pv_append : ∀ (xs ys : List Nat), pv (xs ++ ys) = pv xs + 4294967296 ^ xs.length * pv ys := by
  intro xs ys
  induction xs with
  | nil => simp [pv]
  | cons d r ih => rw [List.cons_append, pv, pv, ih, List.length_cons, Nat.pow_succ', Nat.mul_add, Nat.mul_assoc, Nat.add_assoc]
theorem pv_snoc (xs : List Nat) (d : Nat) : pv (xs ++ [d]) = pv xs + 4294967296 ^ xs.length * d := by
  rw [pv_append]; simp [pv]
theorem pv_lt : ∀ (ds : List Nat), Sm ds → pv ds < 4294967296 ^ ds.length := by
  intro ds
  induction ds with
  | nil => intro _; simp [pv]
  | cons d r ih =>
    intro hs
    have hd : d < 4294967296 := hs d (by simp)
    have := ih (fun x hx => hs x (by simp [hx]))
    rw [List.length_cons, Nat.pow_succ']
    unfold pv
    omega
theorem sm_take {ds : List Nat} (k : Nat) (hs : Sm ds) : Sm (ds.take k) := fun x hx => hs x (List.mem_of_mem_take hx)
theorem sm_snoc {ds : List Nat} {d : Nat} (hs : Sm ds) (hd : d < 4294967296) : Sm (ds ++ [d]) := by
  intro x hx
  rcases List.mem_append.1 hx with h | h
  · exact hs x h
  · simp at h; omega
theorem sm_set {ds : List Nat} {k d : Nat} (hs : Sm ds) (hd : d < 4294967296) : Sm (ds.set k d) := by
  intro x hx
  rcases List.mem_or_eq_of_mem_set hx with h | h
  · exact hs x h
  · omega
theorem sm_getD {ds : List Nat} (k : Nat) (hs : Sm ds) : ds.getD k 0 < 4294967296 := by
  rw [List.getD_eq_getElem?_getD]
  rcases Nat.lt_or_ge k ds.length with h | h
  · rw [List.getElem?_eq_getElem h]; exact hs _ (List.getElem_mem h)
  · rw [List.getElem?_eq_none h]; decide
theorem pv_take_succ : ∀ (ds : List Nat) (k : Nat), pv (ds.take (k + 1)) = pv (ds.take k) + 4294967296 ^ k * ds.getD k 0 := by
  intro ds
  induction ds with
  | nil => intro k; simp [pv]
  | cons d r ih =>
    intro k
    cases k with
    | zero => simp [pv]
    | succ k => rw [List.take_succ_cons, List.take_succ_cons, pv, pv, ih, List.getD_cons_succ, Nat.mul_add, Nat.pow_succ', Nat.mul_assoc, Nat.add_assoc]
theorem pv_set_take : ∀ (rs : List Nat) (k y : Nat), k < rs.length → pv ((rs.set k y).take (k + 1)) = pv (rs.take k) + 4294967296 ^ k * y := by
  intro rs
  induction rs with
  | nil => intro k y h; simp at h
  | cons d r ih =>
    intro k y h
    cases k with
    | zero => simp [pv]
    | succ k =>
      rw [List.set_cons_succ, List.take_succ_cons, List.take_succ_cons, pv, pv, ih k y (by simpa using h), Nat.mul_add, Nat.pow_succ', Nat.mul_assoc, Nat.add_assoc]
theorem pget_set {rs : List Nat} {k j y : Nat} (h : k ≠ j) : (rs.set k y).getD j 0 = rs.getD j 0 := by
  rw [List.getD_eq_getElem?_getD, List.getD_eq_getElem?_getD, List.getElem?_set_ne h]

/-- A step of the product. -/
theorem times_step {rs ds : List Nat} {k by' more cc : Nat} (hk : k < rs.length) (h : pv (rs.take k) + 4294967296 ^ k * cc = pv (ds.take k) * by' + more) :
    pv ((rs.set k ((cc + ds.getD k 0 * by') % 4294967296)).take (k + 1)) + 4294967296 ^ (k + 1) * ((cc + ds.getD k 0 * by') / 4294967296) = pv (ds.take (k + 1)) * by' + more := by
  rw [pv_set_take _ _ _ hk, pv_take_succ ds k, Nat.pow_succ, Nat.mul_assoc, Nat.add_assoc, ← Nat.mul_add, Nat.mod_add_div, Nat.mul_add, ← Nat.add_assoc, h, Nat.add_mul, ← Nat.mul_assoc]
  omega
theorem times_cc {cc d by' : Nat} (h1 : cc < 4294967296) (h2 : d < 4294967296) (h3 : by' < 4294967296) : d * by' ≤ 18446744065119617025 ∧ (cc + d * by') / 4294967296 < 4294967296 := by
  have h : d * by' ≤ 4294967295 * 4294967295 := Nat.mul_le_mul (by omega) (by omega)
  exact ⟨h, by omega⟩
theorem tr_times {ds rs : List Nat} {by' more : Nat} (hl : rs.length = ds.length) (ht : Tr ds) (hb : 1 ≤ by') (h : pv rs = pv ds * by' + more) : Tr rs := by
  unfold Tr
  rcases ht with h0 | h0
  · exact Or.inl (by omega)
  · refine Or.inr ?_
    rw [hl, h]
    have := Nat.le_mul_of_pos_right (pv ds) hb
    omega
theorem tr_snoc {rs : List Nat} {cc : Nat} (hc : cc ≠ 0) : Tr (rs ++ [cc]) := by
  refine Or.inr ?_
  rw [pv_snoc, List.length_append, List.length_singleton, Nat.add_sub_cancel]
  have := Nat.le_mul_of_pos_right (4294967296 ^ rs.length) (Nat.pos_of_ne_zero hc)
  omega
theorem take_all {ds : List Nat} {k : Nat} (h : k = ds.length) : ds.take k = ds := by subst h; simp

/-- A step of the difference. -/
theorem minus_step {rs ds ms : List Nat} {k bw df b2 : Nat} (hk : k < rs.length) (h : pv (rs.take k) + pv (ms.take k) = pv (ds.take k) + 4294967296 ^ k * bw) (hd : df + ms.getD k 0 + bw = ds.getD k 0 + 4294967296 * b2) :
    pv ((rs.set k df).take (k + 1)) + pv (ms.take (k + 1)) = pv (ds.take (k + 1)) + 4294967296 ^ (k + 1) * b2 := by
  rw [pv_set_take _ _ _ hk, pv_take_succ ds k, pv_take_succ ms k, Nat.pow_succ, Nat.mul_assoc]
  have e : 4294967296 ^ k * (df + ms.getD k 0 + bw) = 4294967296 ^ k * (ds.getD k 0 + 4294967296 * b2) := by rw [hd]
  rw [Nat.mul_add, Nat.mul_add, Nat.mul_add] at e
  omega
theorem len_le {ds ms : List Nat} (hm : Tr ms) (hs : Sm ds) (h : pv ms ≤ pv ds) : ms.length ≤ ds.length := by
  rcases hm with h0 | h0
  · omega
  · have := pv_lt ds hs
    have h1 : 4294967296 ^ (ms.length - 1) < 4294967296 ^ ds.length := by omega
    have := (Nat.pow_lt_pow_iff_right (by decide : 1 < 4294967296)).1 h1
    omega
theorem pm_end {rs ds ms : List Nat} {bw : Nat} (hl : rs.length = ds.length) (hr : Sm rs) (hs : Sm ds) (hm : Tr ms) (h : pv ms ≤ pv ds) (he : pv (rs.take ds.length) + pv (ms.take ds.length) = pv (ds.take ds.length) + 4294967296 ^ ds.length * bw) :
    pv rs = pv ds - pv ms := by
  have hle := len_le hm hs h
  rw [take_all hl.symm, take_all rfl, List.take_of_length_le hle] at he
  have h1 := pv_lt rs hr
  rw [hl] at h1
  rcases Nat.eq_zero_or_pos bw with c | c
  · subst c; omega
  · have := Nat.le_mul_of_pos_right (4294967296 ^ ds.length) c
    omega

/-- Trimming. -/
theorem trim_step {ds : List Nat} {k : Nat} (h : pv (ds.take (k + 1)) = pv ds) (hz : ds.getD k 0 = 0) : pv (ds.take k) = pv ds := by
  rw [pv_take_succ, hz] at h; omega
theorem trim_end {ds : List Nat} {k : Nat} (hk : k + 1 ≤ ds.length) (hz : ds.getD k 0 ≠ 0) : Tr (ds.take (k + 1)) := by
  refine Or.inr ?_
  rw [pv_take_succ, List.length_take, Nat.min_eq_left hk, Nat.add_sub_cancel]
  have := Nat.le_mul_of_pos_right (4294967296 ^ k) (Nat.pos_of_ne_zero hz)
  omega

/-- Comparing. -/
theorem pv_split (ds : List Nat) (k : Nat) (hk : k ≤ ds.length) : pv ds = pv (ds.take k) + 4294967296 ^ k * pv (ds.drop k) := by
  have h := pv_append (ds.take k) (ds.drop k)
  rw [List.take_append_drop, List.length_take, Nat.min_eq_left hk] at h
  exact h
theorem cmp_len {ds ms : List Nat} (hs : Sm ds) (hm : Tr ms) (h : ds.length < ms.length) : pv ds < pv ms := by
  rcases hm with h0 | h0
  · omega
  · have h1 := pv_lt ds hs
    have := Nat.pow_le_pow_right (show 0 < 4294967296 by decide) (show ds.length ≤ ms.length - 1 by omega)
    omega
theorem cmp_at {ds ms : List Nat} {k : Nat} (hs : Sm ds) (hk : k < ds.length) (hl : ds.length = ms.length) (hd : pv (ds.drop (k + 1)) = pv (ms.drop (k + 1))) (h : ds.getD k 0 < ms.getD k 0) : pv ds < pv ms := by
  rw [pv_split ds (k + 1) hk, pv_split ms (k + 1) (by omega), hd, pv_take_succ, pv_take_succ]
  have h1 := pv_lt (ds.take k) (sm_take k hs)
  rw [List.length_take, Nat.min_eq_left (by omega)] at h1
  have h2 := Nat.mul_le_mul_left (4294967296 ^ k) (show ds.getD k 0 + 1 ≤ ms.getD k 0 from h)
  rw [Nat.mul_add] at h2
  omega
theorem drop_succ (ds : List Nat) (k : Nat) : pv (ds.drop k) = ds.getD k 0 + 4294967296 * pv (ds.drop (k + 1)) := by
  induction ds generalizing k with
  | nil => simp [pv]
  | cons d r ih =>
    cases k with
    | zero => simp [pv]
    | succ k => rw [List.drop_succ_cons, List.drop_succ_cons, List.getD_cons_succ]; exact ih k

/-- Bits. -/
theorem bl_of {n e : Nat} (h1 : 2 ^ e ≤ n) (h2 : n < 2 ^ (e + 1)) : bl n = e + 1 := by
  have h0 : n ≠ 0 := by have := Nat.two_pow_pos e; omega
  unfold bl
  rw [if_neg h0]
  have a := (Nat.le_log2 h0).2 h1
  have b := (Nat.log2_lt h0).2 h2
  omega
theorem bl_lt (n : Nat) : n < 2 ^ bl n := by
  unfold bl
  split
  · rename_i h; subst h; simp
  · exact Nat.lt_log2_self
theorem bl_ge {n : Nat} (h : n ≠ 0) : 2 ^ (bl n - 1) ≤ n := by
  unfold bl
  rw [if_neg h, Nat.add_sub_cancel]
  exact Nat.log2_self_le h
theorem bl_le {n k : Nat} (h : n < 2 ^ k) : bl n ≤ k := by
  unfold bl
  split
  · omega
  · rename_i h0
    have := (Nat.log2_lt h0).2 h
    omega
theorem bl_parts {ds : List Nat} {l : Nat} (hs : Sm ds) (hl : ds.length = l + 1) (ht : Tr ds) : ds.getD l 0 ≠ 0 ∧ bl (pv ds) = 32 * l + bl (ds.getD l 0) := by
  have hv : pv ds = pv (ds.take l) + 4294967296 ^ l * ds.getD l 0 := by
    rw [← pv_take_succ, List.take_of_length_le (by omega)]
  have h1 := pv_lt (ds.take l) (sm_take l hs)
  rw [List.length_take, Nat.min_eq_left (by omega)] at h1
  rcases ht with h0 | h0
  · omega
  · rw [hl, Nat.add_sub_cancel] at h0
    have hz : ds.getD l 0 ≠ 0 := by
      intro c
      rw [c, Nat.mul_zero] at hv
      omega
    refine ⟨hz, ?_⟩
    have b1 := bl_ge hz
    have b2 := bl_lt (ds.getD l 0)
    have b3 : 1 ≤ bl (ds.getD l 0) := by unfold bl; rw [if_neg hz]; omega
    obtain ⟨e, he⟩ : ∃ e, bl (ds.getD l 0) = e + 1 := ⟨bl (ds.getD l 0) - 1, by omega⟩
    rw [he] at b1 b2 ⊢
    rw [Nat.add_sub_cancel] at b1
    rw [← Nat.add_assoc]
    refine bl_of ?_ ?_
    · rw [hv, Nat.pow_add, ← pow32]
      have := Nat.mul_le_mul_left (4294967296 ^ l) b1
      omega
    · rw [hv, Nat.add_assoc, Nat.pow_add, ← pow32]
      have := Nat.mul_le_mul_left (4294967296 ^ l) (show ds.getD l 0 + 1 ≤ 2 ^ (e + 1) from b2)
      rw [Nat.mul_add] at this
      omega
theorem len_bound {ds : List Nat} {K : Nat} (ht : Tr ds) (h : pv ds < 2 ^ K) : ds.length ≤ K + 1 := by
  rcases ht with h0 | h0
  · omega
  · have h1 : 2 ^ (32 * (ds.length - 1)) < 2 ^ K := by rw [← pow32]; omega
    have := (Nat.pow_lt_pow_iff_right (by decide : 1 < 2)).1 h1
    omega

/-- The borrow, by its bits. -/
theorem nat_borrow {x y b : Nat} (hx : x < 4294967296) (hy : y < 4294967296) (hb : b ≤ 1) :
    ((x + 8589934592 - y - b) % 4294967296) + y + b = x + 4294967296 * (if x < y + b then 1 else 0) := by
  split <;> omega

end Go.Proofs.YthmocdabakkfhaaGreatDoor.Pt

/-
  Parts of 32 bits in memory, and the walks of the landed functions over them: trimmed, partsOf, timesAnd, bitLen, compare, minus.
-/
namespace Go.Proofs.YthmocdabakkfhaaGreatDoor
set_option maxRecDepth 100000
open Go.RowKit Pt

theorem info32 : (Tryz.prog.info? 141).map (fun i => (i.zero, i.size, i.bytes)) = some (some (.int .u32 0), 1, 4) := by kernel_rfl

def c32 (ds : List Nat) : List Value := ds.map fun (d : Nat) => Value.int .u32 (d : Int)
/-- The slice v, all of block g's beginning, holds the parts ds. -/
def PU (w : World) (g : Nat) (v : Value) (ds : List Nat) : Prop :=
  ∃ cap, v = .slice (some ⟨g, 0, none⟩) ds.length cap ∧ Sm ds ∧ w.ownsRow 0 141 1 v ds.length (c32 ds)
/-- The slice v holds the number n, without noughts at the top. -/
def PR (w : World) (g : Nat) (v : Value) (n : Nat) : Prop := ∃ ds, PU w g v ds ∧ pv ds = n ∧ Tr ds

theorem c32_length (ds : List Nat) : (c32 ds).length = ds.length := by unfold c32; simp
theorem c32_set (ds : List Nat) (j d : Nat) : (c32 ds).set j (.int .u32 (d : Int)) = c32 (ds.set j d) := by unfold c32; rw [List.map_set]
theorem c32_one (ds : List Nat) : ∀ u ∈ c32 ds, u.oneCell' = true := by
  intro u hu
  unfold c32 at hu
  obtain ⟨d, _, rfl⟩ := List.mem_map.1 hu
  rfl
theorem PU.lt {w : World} {g : Nat} {v : Value} {ds : List Nat} (h : PU w g v ds) : g < w.heap.size := by
  obtain ⟨cap, rfl, _, h3⟩ := h
  exact (h3.lt g rfl).2
theorem PR.lt {w : World} {g : Nat} {v : Value} {n : Nat} (h : PR w g v n) : g < w.heap.size := by
  obtain ⟨ds, h1, _⟩ := h; exact h1.lt
theorem PU.cap {w : World} {g cap k : Nat} {ds : List Nat} (h : PU w g (.slice (some ⟨g, 0, none⟩) k cap) ds) : k = ds.length ∧ k ≤ cap ∧ cap ≤ maxLen := by
  obtain ⟨cap', e, _, h3⟩ := h
  simp at e
  rcases h3.2 with ⟨k, _⟩ | ⟨g', cap', cur, e2, _, _, r1, r2, _⟩
  · simp at k
  · simp at e2
    obtain ⟨rfl, rfl⟩ := e
    exact ⟨rfl, by omega, by omega⟩
theorem PU.cell {w : World} {g : Nat} {v : Value} {ds : List Nat} (h : PU w g v ds) {j : Nat} (hj : j < ds.length) : w.cell? ⟨g, j, none⟩ = some (.int .u32 (ds.getD j 0 : Nat)) := by
  obtain ⟨cap, rfl, _, h3⟩ := h
  rw [h3.cellAt j (by omega), c32, List.getElem?_map, List.getElem?_eq_getElem hj, List.getD_eq_getElem?_getD, List.getElem?_eq_getElem hj]
  rfl
theorem PU.frozen {w : World} {g : Nat} {v : Value} {ds : List Nat} (h : PU w g v ds) (j : Nat) : w.frozen? ⟨g, j, none⟩ = false := by
  obtain ⟨cap, rfl, _, h3⟩ := h
  exact h3.frozenAt j
theorem PU.stored {w : World} {g : Nat} {v : Value} {ds : List Nat} (h : PU w g v ds) {j d : Nat} (hd : d < 4294967296) : PU (w.setCell ⟨g, j, none⟩ (.int .u32 (d : Int))) g v (ds.set j d) := by
  obtain ⟨cap, rfl, h2, h3⟩ := h
  refine ⟨cap, by rw [List.length_set], sm_set h2 hd, ?_⟩
  have := (h3.stored j (.int .u32 (d : Int))).1
  rw [c32_set] at this
  rw [List.length_set]
  exact this
theorem ownsRow_far {w w' : World} {e s n g : Nat} {v : Value} {xs : List Value} (h : w.ownsRow 0 e s v n xs) (hg : w'.heap[g]? = w.heap[g]?) (hv : v.ownBlock = some g) : w'.ownsRow 0 e s v n xs := by
  refine ⟨h.1, ?_⟩
  rcases h.2 with hn | ⟨g', cap, cur, rfl, h0, hg', rest⟩
  · exact .inl hn
  · refine .inr ⟨g', cap, cur, rfl, h0, ?_, rest⟩
    have e : g' = g := by simpa [Value.ownBlock] using hv
    rw [e, hg, ← e]
    exact hg'
theorem PU.other {w w' : World} {g b : Nat} {v : Value} {ds : List Nat} (h : PU w g v ds) (hg : w.grownBy w' (some b)) (hb : g ≠ b) : PU w' g v ds := by
  have hl := h.lt
  obtain ⟨cap, rfl, h2, h3⟩ := h
  exact ⟨cap, rfl, h2, ownsRow_far h3 (hg.block g hl (by simpa using hb)) rfl⟩
theorem PR.other {w w' : World} {g b : Nat} {v : Value} {n : Nat} (h : PR w g v n) (hg : w.grownBy w' (some b)) (hb : g ≠ b) : PR w' g v n := by
  obtain ⟨ds, h1, h2⟩ := h
  exact ⟨ds, h1.other hg hb, h2⟩
theorem PU.below {w w' : World} {B g : Nat} {v : Value} {ds : List Nat} (h : PU w g v ds) (hg : Below B w w') (hb : g < B) : PU w' g v ds := by
  obtain ⟨cap, rfl, h2, h3⟩ := h
  exact ⟨cap, rfl, h2, ownsRow_far h3 (hg.block g hb) rfl⟩
theorem PR.below {w w' : World} {B g : Nat} {v : Value} {n : Nat} (h : PR w g v n) (hg : Below B w w') (hb : g < B) : PR w' g v n := by
  obtain ⟨ds, h1, h2⟩ := h
  exact ⟨ds, h1.below hg hb, h2⟩
theorem PU.take {w : World} {g k cap : Nat} {ds : List Nat} (h : PU w g (.slice (some ⟨g, 0, none⟩) ds.length cap) ds) (hk : k ≤ ds.length) : PU w g (.slice (some ⟨g, 0, none⟩) k cap) (ds.take k) := by
  obtain ⟨cap', e, h2, h3⟩ := h
  have hl : (ds.take k).length = k := by rw [List.length_take]; omega
  refine ⟨cap, by rw [hl], sm_take k h2, ?_⟩
  rw [hl]
  refine ⟨by rw [c32_length, hl]; omega, ?_⟩
  rcases h3.2 with ⟨c, _⟩ | ⟨g', cap2, cur, e2, h0, hg, r1, r2, r3, r4⟩
  · simp at c
  · simp at e2
    obtain ⟨rfl, rfl⟩ := e2
    refine .inr ⟨g, cap, cur, rfl, h0, hg, by omega, r2, r3, ?_⟩
    have : List.take (k * 1) cur.toList = List.take (k * 1) (List.take (ds.length * 1) cur.toList) := by rw [List.take_take, Nat.min_eq_left (by omega)]
    rw [this, r4, Nat.mul_one]
    unfold c32
    rw [List.map_take]
theorem gb_refl (w : World) (r : Option Nat) : w.grownBy w r := ⟨rfl, rfl, rfl, Nat.le_refl _, fun _ _ _ => rfl⟩
theorem gb_trans {a b c : World} {r : Option Nat} (h : a.grownBy b r) (k : b.grownBy c r) : a.grownBy c r :=
  ⟨k.os.trans h.os, k.tape.trans h.tape, k.output.trans h.output, Nat.le_trans h.size k.size, fun i hi hn => (k.block i (Nat.lt_of_lt_of_le hi h.size) hn).trans (h.block i hi hn)⟩
theorem gb_new {a b c : World} {g g' : Nat} (h : a.grownBy b (some g)) (k : b.grownBy c (some g')) (hg : g' = g ∨ a.heap.size ≤ g') : a.grownBy c (some g) :=
  ⟨k.os.trans h.os, k.tape.trans h.tape, k.output.trans h.output, Nat.le_trans h.size k.size, fun i hi hn =>
    (k.block i (Nat.lt_of_lt_of_le hi h.size) (by
      rcases hg with e | e
      · rw [e]; exact hn
      · intro c; simp at c; omega)).trans (h.block i hi hn)⟩
theorem gb_set (w : World) (g j : Nat) (u : Value) : w.grownBy (w.setCell ⟨g, j, none⟩ u) (some g) :=
  ⟨rfl, rfl, rfl, by simp, fun k _ hk => Below.heap_setCell w ⟨g, j, none⟩ u k (fun e => hk (by rw [e]))⟩
theorem gb_drew {a b : World} {r : Option Nat} (h : a.grownBy b r) (n : Nat) : a.grownBy (b.drewN n) r := ⟨h.os, h.tape, h.output, h.size, h.block⟩

theorem borrow_bits {x y d b b2 : Nat} (hx : x < 4294967296) (hy : y < 4294967296) (hd : d < 4294967296) (hb : b ≤ 1) (hb2 : b2 ≤ 1) (h : d + y + b = x + 4294967296 * b2) :
    (((4294967295 ^^^ x) &&& y) ||| ((4294967295 ^^^ (x ^^^ y)) &&& d)) / 2147483648 = b2 := by
  rw [show (2147483648 : Nat) = 2 ^ 31 from rfl, ← Nat.shiftRight_eq_div_pow, Nat.shiftRight_or_distrib, Nat.shiftRight_and_distrib, Nat.shiftRight_and_distrib, Nat.shiftRight_xor_distrib, Nat.shiftRight_xor_distrib, Nat.shiftRight_xor_distrib]
  simp only [Nat.shiftRight_eq_div_pow]
  have e1 : x / 2 ^ 31 = 0 ∨ x / 2 ^ 31 = 1 := by omega
  have e2 : y / 2 ^ 31 = 0 ∨ y / 2 ^ 31 = 1 := by omega
  have e3 : d / 2 ^ 31 = 0 ∨ d / 2 ^ 31 = 1 := by omega
  have e4 : b2 = 0 ∨ b2 = 1 := by omega
  rcases e1 with e1 | e1 <;> rcases e2 with e2 | e2 <;> rcases e3 with e3 | e3 <;> rcases e4 with e4 | e4 <;> rw [e1, e2, e3, e4] <;> first | decide | (exfalso; omega)
theorem borrow_int {x y d b b2 : Nat} (hx : x < 4294967296) (hy : y < 4294967296) (hd : d < 4294967296) (hb : b ≤ 1) (hb2 : b2 ≤ 1) (h : d + y + b = x + 4294967296 * b2) :
    bits .or .u32 (bits .and .u32 (bits .xor .u32 IntKind.u32.max (x : Int)) (y : Int)) (bits .and .u32 (bits .xor .u32 IntKind.u32.max (bits .xor .u32 (x : Int) (y : Int))) (d : Int)) / 2147483648 = (b2 : Int) := by
  have x1 : 4294967295 ^^^ x < 2 ^ 32 := Nat.xor_lt_two_pow (by decide) hx
  have x2 : x ^^^ y < 2 ^ 32 := Nat.xor_lt_two_pow hx hy
  have x3 : 4294967295 ^^^ (x ^^^ y) < 2 ^ 32 := Nat.xor_lt_two_pow (by decide) x2
  have x4 : (4294967295 ^^^ x) &&& y < 2 ^ 32 := Nat.and_lt_two_pow _ hy
  have x5 : (4294967295 ^^^ (x ^^^ y)) &&& d < 2 ^ 32 := Nat.and_lt_two_pow _ hd
  rw [show IntKind.u32.max = ((4294967295 : Nat) : Int) from rfl, u32_xor_nat x y hx hy, u32_xor_nat _ _ (by decide) hx, u32_xor_nat _ _ (by decide) x2, u32_and_nat _ _ x1 hy, u32_and_nat _ _ x3 hd, u32_or_nat _ _ x4 x5]
  rw [show (2147483648 : Int) = ((2147483648 : Nat) : Int) from rfl, ← Int.natCast_ediv, borrow_bits hx hy hd hb hb2 h]
end Go.Proofs.YthmocdabakkfhaaGreatDoor

/-
  The walks of timesAnd, minus, compare, bitLen, partsOf and Clone over parts.
-/
namespace Go.Proofs.YthmocdabakkfhaaGreatDoor
set_option maxRecDepth 100000
open Go.RowKit Pt

theorem pu_made (w : World) (x y : Nat) (hx : x < 4294967296) (hy : y < 4294967296) : PU (w.alloc (.cells #[.int .u32 (x : Int), .int .u32 (y : Int)] 141)) w.heap.size (.slice (some ⟨w.heap.size, 0, none⟩) 2 2) [x, y] := by
  refine ⟨2, rfl, ?_, rfl, .inr ⟨w.heap.size, 2, _, rfl, Nat.zero_le _, heap_alloc_new w _, Nat.le_refl _, by unfold maxLen; omega, rfl, rfl⟩⟩
  intro d hd
  simp at hd
  omega
theorem pr_empty (w : World) : PR (w.alloc (.cells #[] 141)) w.heap.size (.slice (some ⟨w.heap.size, 0, none⟩) 0 0) 0 :=
  ⟨[], ⟨0, rfl, by intro d hd; simp at hd, rfl, .inr ⟨w.heap.size, 0, _, rfl, Nat.zero_le _, heap_alloc_new w _, Nat.le_refl _, by unfold maxLen; omega, rfl, rfl⟩⟩, rfl, Or.inl rfl⟩

/-- As the program compares. -/
def cmpI (n m : Nat) : Int := if n < m then -1 else if n = m then 0 else 1
theorem cmpI_lt {n m : Nat} (h : n < m) : cmpI n m = -1 := by unfold cmpI; rw [if_pos h]
theorem cmpI_eq {n m : Nat} (h : n = m) : cmpI n m = 0 := by unfold cmpI; rw [if_neg (by omega), if_pos h]
theorem cmpI_gt {n m : Nat} (h : m < n) : cmpI n m = 1 := by unfold cmpI; rw [if_neg (by omega), if_neg (by omega)]

end Go.Proofs.YthmocdabakkfhaaGreatDoor
