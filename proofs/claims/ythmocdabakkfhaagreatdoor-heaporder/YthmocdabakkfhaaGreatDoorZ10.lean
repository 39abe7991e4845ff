/-
  Val, Val2, ValMath, PtMath, Pt, Pt2
-/
import Derived.Deep.RegionWith
import Derived.Deep.DeepCutAuto
import Derived.Laws.BitsAllLaws
import Derived.Deep.AppendLies
import Derived.Test.YthmocdabakkfhaaGreatDoorZ09

/-
  Layer 8: a value's plain form; the landed and the reference's Normal, walked.
-/
namespace Go.Proofs.YthmocdabakkfhaaGreatDoor
set_option maxRecDepth 100000
open Go.RowKit Flo

/-- The plain form of a value: its kind, its number, its text, its object. -/
def nK (K : Int) : Int := if 0 ≤ K ∧ K ≤ 8 then K else 0
def nN (K N : Int) : Int := if K = 3 then canonZ N else 0
def nS (K : Int) (S : ByteArray) : ByteArray := if K = 4 then S else ⟨#[]⟩
def nO (K O : Int) : Int := if 5 ≤ K ∧ K ≤ 8 then O else 0
/-- A value. -/
def vl (K N : Int) (S : ByteArray) (O : Int) : Value := .agg #[.int .i64 K, .int .u64 N, .string S, .int .i64 O]
/-- Its plain form. -/
def nv (K N : Int) (S : ByteArray) (O : Int) : Value := vl (nK K) (nN K N) (nS K S) (nO K O)

theorem nv3 (N : Int) (S : ByteArray) (O : Int) : nv 3 N S O = .agg #[.int .i64 3, .int .u64 (canonZ N), .string ⟨#[]⟩, .int .i64 0] := rfl
theorem nv4 (N : Int) (S : ByteArray) (O : Int) : nv 4 N S O = .agg #[.int .i64 4, .int .u64 0, .string S, .int .i64 0] := rfl
theorem nvO {K : Int} (N : Int) (S : ByteArray) (O : Int) (h1 : 5 ≤ K) (h2 : K ≤ 8) : nv K N S O = .agg #[.int .i64 K, .int .u64 0, .string ⟨#[]⟩, .int .i64 O] := by
  unfold nv vl nK nN nS nO
  rw [if_pos (by omega), if_neg (by omega), if_neg (by omega), if_pos (by omega)]
theorem nvB {K : Int} (N : Int) (S : ByteArray) (O : Int) (h : K = 1 ∨ K = 2) : nv K N S O = .agg #[.int .i64 K, .int .u64 0, .string ⟨#[]⟩, .int .i64 0] := by
  unfold nv vl nK nN nS nO
  rw [if_pos (by omega), if_neg (by omega), if_neg (by omega), if_neg (by omega)]
theorem nv0 {K : Int} (N : Int) (S : ByteArray) (O : Int) (h : K ≤ 0 ∨ 9 ≤ K) : nv K N S O = .agg #[.int .i64 0, .int .u64 0, .string ⟨#[]⟩, .int .i64 0] := by
  unfold nv vl nK nN nS nO
  rw [if_neg (by omega : ¬ K = 3), if_neg (by omega : ¬ K = 4), if_neg (by omega : ¬ (5 ≤ K ∧ K ≤ 8))]
  by_cases k : K = 0
  · subst k; rfl
  · rw [if_neg (by omega)]

theorem vnum_any (N : Int) (w : World) : Calls Tryz.prog 54 #[.int .u64 N] w fun e w' => e = .returned (.agg #[.int .i64 3, .int .u64 N, .string ⟨#[]⟩, .int .i64 0]) ∧ Below w.heap.size w w' := by
  go_enter Tryz.func54, Tryz.ntmps54
  go_wp2
  exact bodyPost_ret (v := .agg #[.int .i64 3, .int .u64 N, .string ⟨#[]⟩, .int .i64 0]) (by simp [results, Tryz.results54, go_sem]) rfl ⟨rfl, by first | exact (Below.refl _ _).alloc (Nat.le_refl _) _ | skip⟩
theorem vtext_any (S : ByteArray) (w : World) : Calls Tryz.prog 56 #[.string S] w fun e w' => e = .returned (.agg #[.int .i64 4, .int .u64 0, .string S, .int .i64 0]) ∧ Below w.heap.size w w' := by
  go_enter Tryz.func56, Tryz.ntmps56
  go_wp2
  exact bodyPost_ret (v := .agg #[.int .i64 4, .int .u64 0, .string S, .int .i64 0]) (by simp [results, Tryz.results56, go_sem]) rfl ⟨rfl, (Below.refl _ _).alloc (Nat.le_refl _) _⟩

/-- What was there reads as before. -/
theorem bcell {W w1 : World} (hb : Below W.heap.size W w1) : (∀ b o, b < W.heap.size → w1.cell? ⟨b, o, none⟩ = W.cell? ⟨b, o, none⟩) ∧ (∀ b o, b < W.heap.size → w1.frozen? ⟨b, o, none⟩ = W.frozen? ⟨b, o, none⟩) :=
  ⟨fun _ _ h => hb.cell h, fun _ _ h => hb.frozen h⟩

theorem set4 {B b i0 i1 i2 i3 : Nat} {W w1 : World} (h : Below B W w1) (hb : B ≤ b) (v0 v1 v2 v3 : Value) :
    Below B W ((((w1.setCell ⟨b, i0, none⟩ v0).setCell ⟨b, i1, none⟩ v1).setCell ⟨b, i2, none⟩ v2).setCell ⟨b, i3, none⟩ v3) :=
  (((h.setCell (p := ⟨b, i0, none⟩) hb _).setCell (p := ⟨b, i1, none⟩) hb _).setCell (p := ⟨b, i2, none⟩) hb _).setCell (p := ⟨b, i3, none⟩) hb _

set_option maxHeartbeats 1000000 in
theorem normal_any (K N : Int) (S : ByteArray) (O : Int) (w : World) (hN : U64 N) :
    Calls Tryz.prog 22 #[.agg #[.int .i64 K, .int .u64 N, .string S, .int .i64 O]] w fun e w' => e = .returned (nv K N S O) ∧ Below w.heap.size w w' := by
  have hc : K = 3 ∨ K = 4 ∨ (K = 5 ∨ K = 6 ∨ K = 7 ∨ K = 8) ∨ (K = 1 ∨ K = 2) ∨ (K ≤ 0 ∨ 9 ≤ K) := by omega
  rcases hc with c | c | c | c | c
  · subst c
    rw [nv3]
    have HC := fun w => canon_any N w hN
    generalize canonZ N = M at *
    go_enter Tryz.func22, Tryz.ntmps22
    go_wp2_with fail
    refine (HC _).mono ?_
    rintro e w' ⟨rfl, rfl⟩
    go_wp2_with fail
    refine (vnum_any M _).mono ?_
    rintro e w1 ⟨rfl, hb⟩
    obtain ⟨hc, hf⟩ := bcell hb
    go_wp2
    exact bodyPost_ret (v := .agg #[.int .i64 3, .int .u64 M, .string ⟨#[]⟩, .int .i64 0]) (by simp [results, Tryz.results22, go_sem, hc]) rfl ⟨rfl, set4 (((((Below.refl _ _).alloc (Nat.le_refl _) _).alloc (by simp) _)).trans (hb.mono (by simp; omega))) (by omega) _ _ _ _⟩
  · subst c
    rw [nv4]
    go_enter Tryz.func22, Tryz.ntmps22
    go_wp2_with fail
    refine (vtext_any S _).mono ?_
    rintro e w1 ⟨rfl, hb⟩
    obtain ⟨hc, hf⟩ := bcell hb
    go_wp2
    exact bodyPost_ret (v := .agg #[.int .i64 4, .int .u64 0, .string S, .int .i64 0]) (by simp [results, Tryz.results22, go_sem, hc]) rfl ⟨rfl, set4 (((((Below.refl _ _).alloc (Nat.le_refl _) _).alloc (by simp) _)).trans (hb.mono (by simp; omega))) (by omega) _ _ _ _⟩
  · rw [nvO _ _ _ (by omega) (by omega)]
    rcases c with c | c | c | c <;> subst c
    all_goals
      go_enter Tryz.func22, Tryz.ntmps22
      go_wp2
      exact bodyPost_ret (v := .agg #[.int .i64 _, .int .u64 0, .string ⟨#[]⟩, .int .i64 O]) (by simp [results, Tryz.results22, go_sem]) rfl ⟨rfl, ((Below.refl _ _).alloc (Nat.le_refl _) _).alloc (by simp) _⟩
  · rw [nvB _ _ _ c]
    rcases c with c | c <;> subst c
    all_goals
      go_enter Tryz.func22, Tryz.ntmps22
      go_wp2
      exact bodyPost_ret (v := .agg #[.int .i64 _, .int .u64 0, .string ⟨#[]⟩, .int .i64 0]) (by simp [results, Tryz.results22, go_sem]) rfl ⟨rfl, ((Below.refl _ _).alloc (Nat.le_refl _) _).alloc (by simp) _⟩
  · rw [nv0 _ _ _ c]
    rcases c with c | c
    all_goals
      go_enter Tryz.func22, Tryz.ntmps22
      go_wp2
      exact bodyPost_ret (v := .agg #[.int .i64 0, .int .u64 0, .string ⟨#[]⟩, .int .i64 0]) (by simp [results, Tryz.results22, go_sem]) rfl ⟨rfl, ((Below.refl _ _).alloc (Nat.le_refl _) _).alloc (by simp) _⟩

set_option maxHeartbeats 1000000 in
theorem refNormal_any (K N : Int) (S : ByteArray) (O : Int) (w : World) (hN : U64 N) :
    Calls Tryz.prog 63 #[.agg #[.int .i64 K, .int .u64 N, .string S, .int .i64 O]] w fun e w' => e = .returned (nv K N S O) ∧ Below w.heap.size w w' := by
  have hc : K = 3 ∨ K = 4 ∨ (K = 5 ∨ K = 6 ∨ K = 7 ∨ K = 8) ∨ (K = 1 ∨ K = 2) ∨ (K ≤ 0 ∨ 9 ≤ K) := by omega
  rcases hc with c | c | c | c | c
  · subst c
    rw [nv3]
    have HC := fun w => refCanon_any N w hN
    generalize canonZ N = M at *
    go_enter Tryz.func63, Tryz.ntmps63
    go_wp2_with fail
    go_region_with (go_at_call 69; refine (HC _).mono ?_; rintro e w' ⟨rfl, rfl⟩)
    all_goals
      go_wp2
      exact bodyPost_ret (v := .agg #[.int .i64 3, .int .u64 M, .string ⟨#[]⟩, .int .i64 0]) (by simp [results, Tryz.results63, go_sem]) rfl ⟨rfl, (((Below.refl _ _).alloc (Nat.le_refl _) _).alloc (by simp) _).drew⟩
  · subst c
    rw [nv4]
    go_enter Tryz.func63, Tryz.ntmps63
    go_wp2
    exact bodyPost_ret (v := .agg #[.int .i64 4, .int .u64 0, .string S, .int .i64 0]) (by simp [results, Tryz.results63, go_sem]) rfl ⟨rfl, ((Below.refl _ _).alloc (Nat.le_refl _) _).alloc (by simp) _⟩
  · rw [nvO _ _ _ (by omega) (by omega)]
    rcases c with c | c | c | c <;> subst c
    all_goals
      go_enter Tryz.func63, Tryz.ntmps63
      go_wp2
      exact bodyPost_ret (v := .agg #[.int .i64 _, .int .u64 0, .string ⟨#[]⟩, .int .i64 O]) (by simp [results, Tryz.results63, go_sem]) rfl ⟨rfl, ((Below.refl _ _).alloc (Nat.le_refl _) _).alloc (by simp) _⟩
  · rw [nvB _ _ _ c]
    rcases c with c | c <;> subst c
    all_goals
      go_enter Tryz.func63, Tryz.ntmps63
      go_wp2
      exact bodyPost_ret (v := .agg #[.int .i64 _, .int .u64 0, .string ⟨#[]⟩, .int .i64 0]) (by simp [results, Tryz.results63, go_sem]) rfl ⟨rfl, ((Below.refl _ _).alloc (Nat.le_refl _) _).alloc (by simp) _⟩
  · rw [nv0 _ _ _ c]
    have b1 : (K == 1) = false := by simp; omega
    have b2 : (K == 2) = false := by simp; omega
    rcases c with c | c
    all_goals
      go_enter Tryz.func63, Tryz.ntmps63
      go_wp2
      exact bodyPost_ret (v := .agg #[.int .i64 0, .int .u64 0, .string ⟨#[]⟩, .int .i64 0]) (by simp [results, Tryz.results63, go_sem]) rfl ⟨rfl, ((Below.refl _ _).alloc (Nat.le_refl _) _).alloc (by simp) _⟩

end Go.Proofs.YthmocdabakkfhaaGreatDoor

/-
  Layer 8: which values are the same; the landed and the reference's Same, walked.
-/
namespace Go.Proofs.YthmocdabakkfhaaGreatDoor
set_option maxRecDepth 100000
open Go.RowKit Flo

theorem vset_same (w : World) (b i : Nat) (v u : Value) (h : w.cell? ⟨b, i, none⟩ = some u) : (w.setCell ⟨b, i, none⟩ v).cell? ⟨b, i, none⟩ = some v :=
  World.cell?_setCell_same _ _ _ h
theorem vset_far (w : World) (b i j : Nat) (v : Value) (h : i ≠ j) : (w.setCell ⟨b, i, none⟩ v).cell? ⟨b, j, none⟩ = w.cell? ⟨b, j, none⟩ :=
  World.cell?_setCell_other w _ _ v (fun e => h (congrArg Addr.off e))
theorem vset_off (w : World) (b c i j : Nat) (v : Value) (h : b ≠ c) : (w.setCell ⟨b, i, none⟩ v).cell? ⟨c, j, none⟩ = w.cell? ⟨c, j, none⟩ :=
  World.cell?_setCell_other w _ _ v (fun e => h (congrArg Addr.block e))
/-- A value that is stored is there. -/
theorem stored4 (w x : World) (b : Nat) (v0 v1 v2 v3 u0 u1 u2 u3 : Value) (h0 : w.cell? ⟨b, 0, none⟩ = some u0) (h1 : w.cell? ⟨b, 1, none⟩ = some u1) (h2 : w.cell? ⟨b, 2, none⟩ = some u2) (h3 : w.cell? ⟨b, 3, none⟩ = some u3)
    (hx : x = (((w.setCell ⟨b, 0, none⟩ v0).setCell ⟨b, 1, none⟩ v1).setCell ⟨b, 2, none⟩ v2).setCell ⟨b, 3, none⟩ v3) :
    (x.cell? ⟨b, 0, none⟩ = some v0 ∧ x.cell? ⟨b, 1, none⟩ = some v1 ∧ x.cell? ⟨b, 2, none⟩ = some v2 ∧ x.cell? ⟨b, 3, none⟩ = some v3) ∧ ∀ c i, b ≠ c → x.cell? ⟨c, i, none⟩ = w.cell? ⟨c, i, none⟩ := by
  subst hx
  have g0 := vset_same w b 0 v0 u0 h0
  have f1 := (vset_far w b 0 1 v0 (by decide)).trans h1
  have f2 := (vset_far w b 0 2 v0 (by decide)).trans h2
  have f3 := (vset_far w b 0 3 v0 (by decide)).trans h3
  have fo := fun c i (h : b ≠ c) => vset_off w b c 0 i v0 h
  generalize w.setCell ⟨b, 0, none⟩ v0 = w1 at *
  have k1 := vset_same w1 b 1 v1 u1 f1
  have k0 := (vset_far w1 b 1 0 v1 (by decide)).trans g0
  have k2 := (vset_far w1 b 1 2 v1 (by decide)).trans f2
  have k3 := (vset_far w1 b 1 3 v1 (by decide)).trans f3
  have ko := fun c i (h : b ≠ c) => (vset_off w1 b c 1 i v1 h).trans (fo c i h)
  generalize w1.setCell ⟨b, 1, none⟩ v1 = w2 at *
  have m2 := vset_same w2 b 2 v2 u2 k2
  have m0 := (vset_far w2 b 2 0 v2 (by decide)).trans k0
  have m1 := (vset_far w2 b 2 1 v2 (by decide)).trans k1
  have m3 := (vset_far w2 b 2 3 v2 (by decide)).trans k3
  have mo := fun c i (h : b ≠ c) => (vset_off w2 b c 2 i v2 h).trans (ko c i h)
  generalize w2.setCell ⟨b, 2, none⟩ v2 = w3 at *
  exact ⟨⟨(vset_far w3 b 3 0 v3 (by decide)).trans m0, (vset_far w3 b 3 1 v3 (by decide)).trans m1, (vset_far w3 b 3 2 v3 (by decide)).trans m2, vset_same w3 b 3 v3 u3 m3⟩, fun c i h => (vset_off w3 b c 3 i v3 h).trans (mo c i h)⟩

/-- Texts with the same bytes are the same. -/
theorem toList_loop (s : ByteArray) : ∀ (n i : Nat) (r : List UInt8), s.size - i = n → ByteArray.toList.loop s i r = r.reverse ++ s.data.toList.drop i := by
  intro n
  induction n with
  | zero =>
    intro i r h
    unfold ByteArray.toList.loop
    rw [if_neg (by omega), List.drop_eq_nil_of_le (by simp only [Array.length_toList]; exact Nat.le_of_sub_eq_zero h), List.append_nil]
  | succ n ih =>
    intro i r h
    unfold ByteArray.toList.loop
    have hi : i < s.data.toList.length := by simp only [Array.length_toList]; exact Nat.lt_of_sub_eq_succ h
    rw [if_pos (by omega), ih (i + 1) _ (by omega), List.reverse_cons, List.append_assoc, List.drop_eq_getElem_cons hi]
    congr 1
    have : s.get! i = s.data.toList[i] := by
      simp only [ByteArray.get!, Array.getElem_toList]
      exact getElem!_pos s.data i (by simpa using hi)
    rw [this]; rfl
theorem toList_data (s : ByteArray) : s.toList = s.data.toList := by
  unfold ByteArray.toList
  rw [toList_loop s _ 0 [] rfl]; rfl
theorem text_inj {s t : ByteArray} (h : s.toList = t.toList) : s = t := by
  rw [toList_data, toList_data] at h
  cases s; cases t; congr 1; exact Array.toList_inj.1 h
/-- Whether two plain forms are the same. -/
def sameV (k n : Int) (s : ByteArray) (o : Int) (k' n' : Int) (s' : ByteArray) (o' : Int) : Bool := if k = 3 ∧ k' = 3 then equalB n n' else decide (k = k' ∧ n = n' ∧ s = s' ∧ o = o')
/-- Whether two values are the same. -/
def sameB (K N : Int) (S : ByteArray) (O : Int) (K' N' : Int) (S' : ByteArray) (O' : Int) : Bool := sameV (nK K) (nN K N) (nS K S) (nO K O) (nK K') (nN K' N') (nS K' S') (nO K' O')
theorem nN_zero {K N : Int} (h : nK K ≠ 3) : nN K N = 0 := by
  unfold nN; rw [if_neg]; intro e; subst e; exact h rfl
theorem canon_u64 {N : Int} (h : U64 N) : U64 (canonZ N) := by
  unfold canonZ; split
  · exact ⟨by decide, by decide⟩
  · exact h
theorem nN_u64 {K N : Int} (h : U64 N) : U64 (nN K N) := by
  unfold nN; split
  · exact canon_u64 h
  · exact ⟨by decide, by decide⟩

set_option maxHeartbeats 4000000 in
theorem same_any (K N : Int) (S : ByteArray) (O : Int) (K' N' : Int) (S' : ByteArray) (O' : Int) (w : World) (hN : U64 N) (hN' : U64 N') :
    Calls Tryz.prog 57 #[.agg #[.int .i64 K, .int .u64 N, .string S, .int .i64 O], .agg #[.int .i64 K', .int .u64 N', .string S', .int .i64 O']] w fun e w' => e = .returned (.bool (sameB K N S O K' N' S' O')) ∧ Below w.heap.size w w' := by
  have H0 : Hid ((nK K ≠ 3 → nN K N = 0) ∧ (nK K' ≠ 3 → nN K' N' = 0)) := ⟨nN_zero, nN_zero⟩
  have HE : Hid (∀ w, Calls Tryz.prog 74 #[.int .u64 (nN K N), .int .u64 (nN K' N')] w fun e w' => e = .returned (.bool (equalB (nN K N) (nN K' N'))) ∧ w' = w) := fun w => equal_any _ _ w (nN_u64 hN) (nN_u64 hN')
  unfold sameB
  go_enter Tryz.func57, Tryz.ntmps57
  go_wp2_with fail
  go_cut [4] (fun t wx => t = .bool false ∧ wx.cell? ⟨w.heap.size, 0, none⟩ = some (.int .i64 (nK K)) ∧ wx.cell? ⟨w.heap.size, 1, none⟩ = some (.int .u64 (nN K N)) ∧ wx.cell? ⟨w.heap.size, 2, none⟩ = some (.string (nS K S)) ∧ wx.cell? ⟨w.heap.size, 3, none⟩ = some (.int .i64 (nO K O)) ∧
    wx.cell? ⟨w.heap.size + 1, 0, none⟩ = some (.int .i64 (nK K')) ∧ wx.cell? ⟨w.heap.size + 1, 1, none⟩ = some (.int .u64 (nN K' N')) ∧ wx.cell? ⟨w.heap.size + 1, 2, none⟩ = some (.string (nS K' S')) ∧ wx.cell? ⟨w.heap.size + 1, 3, none⟩ = some (.int .i64 (nO K' O')) ∧ Hid (Below w.heap.size w wx))
  case first =>
    go_region_with (go_at_call 22; refine (normal_any _ _ _ _ _ (by assumption)).mono ?_; rintro e wn ⟨he, hb⟩; unfold nv vl at he; subst he; obtain ⟨hc, hf⟩ := bcell hb; have hz0 : w.heap.size < wn.heap.size := (by have := hb.size; (try simp at this); omega); have hz1 : w.heap.size + 1 < wn.heap.size := (by have := hb.size; (try simp at this); omega))
    all_goals
      rename_i wm hbm hcm hfm hzm0 hzm1
      have a0 : wn.cell? ⟨w.heap.size, 0, none⟩ = some (.int .i64 K) := by rw [hc _ _ hzm0, hcm _ _ (by simp; try omega)]; simp
      have a1 : wn.cell? ⟨w.heap.size, 1, none⟩ = some (.int .u64 N) := by rw [hc _ _ hzm0, hcm _ _ (by simp; try omega)]; simp
      have a2 : wn.cell? ⟨w.heap.size, 2, none⟩ = some (.string S) := by rw [hc _ _ hzm0, hcm _ _ (by simp; try omega)]; simp
      have a3 : wn.cell? ⟨w.heap.size, 3, none⟩ = some (.int .i64 O) := by rw [hc _ _ hzm0, hcm _ _ (by simp; try omega)]; simp
      have b0 : wn.cell? ⟨w.heap.size + 1, 0, none⟩ = some (.int .i64 K') := by rw [hc _ _ hzm1, hcm _ _ (by simp; try omega)]; simp
      have b1 : wn.cell? ⟨w.heap.size + 1, 1, none⟩ = some (.int .u64 N') := by rw [hc _ _ hzm1, hcm _ _ (by simp; try omega)]; simp
      have b2 : wn.cell? ⟨w.heap.size + 1, 2, none⟩ = some (.string S') := by rw [hc _ _ hzm1, hcm _ _ (by simp; try omega)]; simp
      have b3 : wn.cell? ⟨w.heap.size + 1, 3, none⟩ = some (.int .i64 O') := by rw [hc _ _ hzm1, hcm _ _ (by simp; try omega)]; simp
      have hB : Below w.heap.size w wn := Below.trans (by first | exact (((Below.refl _ _).alloc (Nat.le_refl _) _).alloc (by simp) _).drew.trans (hbm.mono (by simp; omega)) | exact (((Below.refl _ _).alloc (Nat.le_refl _) _).alloc (by simp) _).trans (hbm.mono (by simp; omega)) | exact ((((Below.refl _ _).alloc (Nat.le_refl _) _).alloc (by simp) _).drew.drew).trans (hbm.mono (by simp; omega))) (by first | exact hb.mono (by omega) | exact (Below.refl _ _).drew.trans (hb.mono (by simp; omega)))
      have q1 := stored4 wn _ w.heap.size (.int .i64 (nK K)) (.int .u64 (nN K N)) (.string (nS K S)) (.int .i64 (nO K O)) _ _ _ _ a0 a1 a2 a3 rfl
      have hB1 := set4 (i0 := 0) (i1 := 1) (i2 := 2) (i3 := 3) hB (Nat.le_refl _) (.int .i64 (nK K)) (.int .u64 (nN K N)) (.string (nS K S)) (.int .i64 (nO K O))
      generalize ((((wn.setCell ⟨w.heap.size, 0, none⟩ (.int .i64 (nK K))).setCell ⟨w.heap.size, 1, none⟩ (.int .u64 (nN K N))).setCell ⟨w.heap.size, 2, none⟩ (.string (nS K S))).setCell ⟨w.heap.size, 3, none⟩ (.int .i64 (nO K O))) = wp at q1 hB1 ⊢
      have q2 := stored4 wp _ (w.heap.size + 1) (.int .i64 (nK K')) (.int .u64 (nN K' N')) (.string (nS K' S')) (.int .i64 (nO K' O')) _ _ _ _ ((q1.2 _ _ (by omega)).trans b0) ((q1.2 _ _ (by omega)).trans b1) ((q1.2 _ _ (by omega)).trans b2) ((q1.2 _ _ (by omega)).trans b3) rfl
      have hB2 := set4 (b := w.heap.size + 1) (i0 := 0) (i1 := 1) (i2 := 2) (i3 := 3) hB1 (by omega) (.int .i64 (nK K')) (.int .u64 (nN K' N')) (.string (nS K' S')) (.int .i64 (nO K' O'))
      generalize ((((wp.setCell ⟨w.heap.size + 1, 0, none⟩ (.int .i64 (nK K'))).setCell ⟨w.heap.size + 1, 1, none⟩ (.int .u64 (nN K' N'))).setCell ⟨w.heap.size + 1, 2, none⟩ (.string (nS K' S'))).setCell ⟨w.heap.size + 1, 3, none⟩ (.int .i64 (nO K' O'))) = wq at q2 hB2 ⊢
      go_wp2_with fail
      go_meet
      exact ⟨rfl, (q2.2 _ _ (by omega)).trans q1.1.1, (q2.2 _ _ (by omega)).trans q1.1.2.1, (q2.2 _ _ (by omega)).trans q1.1.2.2.1, (q2.2 _ _ (by omega)).trans q1.1.2.2.2, q2.1.1, q2.1.2.1, q2.1.2.2.1, q2.1.2.2.2, hB2⟩
  case rest =>
    obtain ⟨rfl, a0, a1, a2, a3, b0, b1, b2, b3, HB⟩ := hcut
    by_cases c3 : (nK K) = 3 ∧ (nK K') = 3
    · have hv : Hid (sameV (nK K) (nN K N) (nS K S) (nO K O) (nK K') (nN K' N') (nS K' S') (nO K' O') = equalB (nN K N) (nN K' N')) := if_pos c3
      generalize equalB (nN K N) (nN K' N') = r at *
      obtain ⟨d1, d2⟩ := c3
      go_wp2_with fail
      refine (HE.out _).mono ?_
      rintro e w1 ⟨rfl, rfl⟩
      go_wp2
      go_ret
      exact ⟨ret_bool hv.out.symm, HB.out⟩
    · have hv : sameV (nK K) (nN K N) (nS K S) (nO K O) (nK K') (nN K' N') (nS K' S') (nO K' O') = decide ((nK K) = (nK K') ∧ (nN K N) = (nN K' N') ∧ (nS K S) = (nS K' S') ∧ (nO K O) = (nO K' O')) := if_neg c3
      by_cases ck : (nK K) = 3
      · have ck' : ¬ (nK K') = 3 := fun h => c3 ⟨ck, h⟩
        have cb : ((nK K') == 3) = false := by simpa using ck'
        rw [decide_eq_false (fun h => ck' (h.1.symm.trans ck))] at hv
        have HV : Hid (_ = _) := hv
        clear hv
        go_wp2
        all_goals
          go_ret
          exact ⟨by first | exact ret_bool HV.out.symm | (exfalso; omega), HB.out⟩
      · have cb : ((nK K) == 3) = false := by simpa using ck
        by_cases ce : (nK K) = (nK K') ∧ (nN K N) = (nN K' N') ∧ (nS K S) = (nS K' S') ∧ (nO K O) = (nO K' O')
        · rw [decide_eq_true ce] at hv
          have HV : Hid (_ = _) := hv
          clear hv
          obtain ⟨e1, e2, e3, e4⟩ := ce
          go_wp2
          all_goals
            go_ret
            exact ⟨ret_bool HV.out.symm, HB.out⟩
        · rw [decide_eq_false ce] at hv
          have HV : Hid (_ = _) := hv
          have HCE : Hid (¬ ((nK K) = (nK K') ∧ (nN K N) = (nN K' N') ∧ (nS K S) = (nS K' S') ∧ (nO K O) = (nO K' O'))) := ce
          clear ce c3 hv
          go_wp2
          all_goals
            go_ret
            exact ⟨by first | exact ret_bool HV.out.symm | (exfalso; have q := HCE.out; first | exact q ⟨by assumption, by assumption, text_inj (by assumption), by assumption⟩ | exact q ⟨by first | assumption | exact text_inj (by assumption), by assumption⟩ | (clear HV; simp_all)), HB.out⟩

end Go.Proofs.YthmocdabakkfhaaGreatDoor

/-
  Layer 8: plain mathematics of values: keys, and which values are the same.
-/
namespace Go.Proofs.YthmocdabakkfhaaGreatDoor
set_option maxRecDepth 100000
open Go.RowKit Flo

/-- Whether a value has a key, and its number there. -/
def kok (K N : Int) : Bool := !decide (nK K = 0) && !(decide (K = 3) && nanB N)
def kN (K N : Int) : Int := if mag (nN K N) = 0 then 0 else nN K N
/-- A value's key, or the zero value. -/
def yK (K N : Int) : Int := if kok K N then nK K else 0
def yN (K N : Int) : Int := if kok K N then kN K N else 0
def yS (K N : Int) (S : ByteArray) : ByteArray := if kok K N then nS K S else ⟨#[]⟩
def yO (K N O : Int) : Int := if kok K N then nO K O else 0

theorem nK_nK (K : Int) : nK (nK K) = nK K := by
  by_cases h : 0 ≤ K ∧ K ≤ 8
  · have e : nK K = K := if_pos h
    rw [e, e]
  · have e : nK K = 0 := if_neg h
    rw [e]; rfl
theorem nK_3 (K : Int) : nK K = 3 ↔ K = 3 := by unfold nK; split <;> omega
theorem nK_0 (K : Int) : nK K = 0 ↔ (K ≤ 0 ∨ 9 ≤ K) := by unfold nK; split <;> omega
theorem nan_canon (N : Int) : nanB (canonZ N) = nanB N := by
  unfold canonZ
  cases h : nanB N
  · simp [h]
  · have : nanB 9221120237041090560 = true := by decide
    simp [this]
theorem nS_nS (K : Int) (S : ByteArray) : nS (nK K) (nS K S) = nS K S := by
  unfold nS
  by_cases h : K = 4
  · subst h; rw [if_pos rfl, if_pos (by rfl)]
  · rw [if_neg h]; split <;> rfl
theorem nO_nO (K O : Int) : nO (nK K) (nO K O) = nO K O := by
  unfold nO
  by_cases h : 5 ≤ K ∧ K ≤ 8
  · rw [if_pos h, if_pos (by unfold nK; split <;> omega)]
  · rw [if_neg h]; split <;> rfl
theorem nil_form {K : Int} (N : Int) (S : ByteArray) (O : Int) (h : nK K = 0) : nN K N = 0 ∧ nS K S = ⟨#[]⟩ ∧ nO K O = 0 := by
  rw [nK_0] at h
  unfold nN nS nO
  exact ⟨if_neg (by omega), if_neg (by omega), if_neg (by omega)⟩
theorem kN_plain {K : Int} (N : Int) (h : K ≠ 3) : kN K N = 0 ∧ nN K N = 0 := by
  have : nN K N = 0 := by unfold nN; exact if_neg h
  exact ⟨by unfold kN; rw [this]; rfl, this⟩
theorem kok_plain {K : Int} (N : Int) (h : K ≠ 3) : kok K N = true ↔ nK K ≠ 0 := by
  unfold kok; simp [h]
theorem kok_3 (N : Int) : kok 3 N = !nanB N := by unfold kok; simp [show nK 3 = 3 from rfl]
theorem kN_3 {N : Int} (h : nanB N = false) : kN 3 N = if mag N = 0 then 0 else N := by
  have : nN 3 N = N := by unfold nN canonZ; rw [if_pos rfl, h]; rfl
  unfold kN; rw [this]
/-- Numbers that are equal are those with the same key. -/
theorem equal_key {N M : Int} (hN : U64 N) (hM : U64 M) : equalB (canonZ N) (canonZ M) = true ↔ (nanB N = false ∧ nanB M = false ∧ (if mag N = 0 then 0 else N) = (if mag M = 0 then 0 else M)) := by
  unfold equalB
  rw [nan_canon, nan_canon]
  cases hn : nanB N <;> cases hm : nanB M <;> simp
  have e1 : canonZ N = N := by unfold canonZ; rw [hn]; rfl
  have e2 : canonZ M = M := by unfold canonZ; rw [hm]; rfl
  rw [e1, e2]
  obtain ⟨a1, a2⟩ := hN
  obtain ⟨b1, b2⟩ := hM
  unfold sv mag
  constructor
  · intro h
    split at h <;> split at h <;> split <;> split <;> omega
  · intro h
    split at h <;> split at h <;> split <;> split <;> omega
/-- Two values are the same just where they have the same key, or are both Nil. -/
theorem same_key {K N : Int} {S : ByteArray} {O K' N' : Int} {S' : ByteArray} {O' : Int} (hN : U64 N) (hN' : U64 N') :
    sameB K N S O K' N' S' O' = true ↔ ((kok K N = true ∧ kok K' N' = true ∧ nK K = nK K' ∧ kN K N = kN K' N' ∧ nS K S = nS K' S' ∧ nO K O = nO K' O') ∨ (nK K = 0 ∧ nK K' = 0)) := by
  unfold sameB sameV
  by_cases c : K = 3 ∧ K' = 3
  · obtain ⟨rfl, rfl⟩ := c
    rw [if_pos ⟨rfl, rfl⟩, show nN 3 N = canonZ N from rfl, show nN 3 N' = canonZ N' from rfl, equal_key hN hN', kok_3, kok_3]
    constructor
    · rintro ⟨h1, h2, h3⟩
      left
      rw [h1, h2, kN_3 h1, kN_3 h2]
      exact ⟨rfl, rfl, rfl, h3, rfl, rfl⟩
    · rintro (⟨h1, h2, _, h3, _, _⟩ | ⟨h, _⟩)
      · have g1 : nanB N = false := by simpa using h1
        have g2 : nanB N' = false := by simpa using h2
        rw [kN_3 g1, kN_3 g2] at h3
        exact ⟨g1, g2, h3⟩
      · exact absurd h (by decide)
  · rw [if_neg (by rw [nK_3, nK_3]; exact c), decide_eq_true_iff]
    by_cases c1 : K = 3
    · have c2 : K' ≠ 3 := fun h => c ⟨c1, h⟩
      have h3 : nK K = 3 := (nK_3 K).2 c1
      have h4 : nK K' ≠ 3 := fun h => c2 ((nK_3 K').1 h)
      constructor
      · rintro ⟨h, _⟩; omega
      · rintro (⟨_, _, h, _⟩ | ⟨h, _⟩) <;> omega
    · by_cases c2 : K' = 3
      · have h3 : nK K' = 3 := (nK_3 K').2 c2
        have h4 : nK K ≠ 3 := fun h => c1 ((nK_3 K).1 h)
        constructor
        · rintro ⟨h, _⟩; omega
        · rintro (⟨_, _, h, _⟩ | ⟨_, h⟩) <;> omega
      · obtain ⟨k1, k2⟩ := kN_plain N c1
        obtain ⟨k3, k4⟩ := kN_plain N' c2
        rw [k1, k2, k3, k4, kok_plain N c1, kok_plain N' c2]
        constructor
        · rintro ⟨h1, _, h2, h3⟩
          by_cases z : nK K = 0
          · right; exact ⟨z, by omega⟩
          · left; exact ⟨z, by omega, h1, rfl, h2, h3⟩
        · rintro (⟨_, _, h1, _, h2, h3⟩ | ⟨h1, h2⟩)
          · exact ⟨h1, rfl, h2, h3⟩
          · obtain ⟨_, a2, a3⟩ := nil_form N S O h1
            obtain ⟨_, b2, b3⟩ := nil_form N' S' O' h2
            exact ⟨by omega, rfl, by rw [a2, b2], by rw [a3, b3]⟩
theorem kok_nil {K N : Int} (h : kok K N = true) : nK K ≠ 0 := by
  unfold kok at h; simp at h; exact h.1
theorem kN_u64 {K N : Int} (h : U64 N) : U64 (kN K N) := by
  unfold kN; split
  · exact ⟨by decide, by decide⟩
  · exact nN_u64 h
/-- Keys of keys. -/
theorem key_key {K N : Int} (S : ByteArray) (O : Int) (h : kok K N = true) : kok (nK K) (kN K N) = true ∧ nK (nK K) = nK K ∧ kN (nK K) (kN K N) = kN K N ∧ nS (nK K) (nS K S) = nS K S ∧ nO (nK K) (nO K O) = nO K O := by
  refine ⟨?_, nK_nK K, ?_, nS_nS K S, nO_nO K O⟩
  · by_cases c : K = 3
    · subst c
      rw [kok_3] at h
      have g : nanB N = false := by simpa using h
      rw [show nK 3 = 3 from rfl, kok_3, kN_3 g]
      split
      · decide
      · simpa using g
    · rw [kok_plain _ (by rw [Ne, nK_3]; exact c), nK_nK]
      exact kok_nil h
  · by_cases c : K = 3
    · subst c
      rw [kok_3] at h
      have g : nanB N = false := by simpa using h
      rw [show nK 3 = 3 from rfl, kN_3 g]
      split
      · decide
      · next z => rw [kN_3 g, if_neg z]
    · rw [(kN_plain N c).1]
      exact (kN_plain 0 (by rw [Ne, nK_3]; exact c)).1
/-- The plain form again. -/
theorem kok_norm (K N : Int) : kok (nK K) (nN K N) = kok K N := by
  by_cases c : K = 3
  · subst c
    rw [show nK 3 = 3 from rfl, show nN 3 N = canonZ N from rfl, kok_3, kok_3, nan_canon]
  · rw [Bool.eq_iff_iff, kok_plain _ (by rw [Ne, nK_3]; exact c), kok_plain _ c, nK_nK]
end Go.Proofs.YthmocdabakkfhaaGreatDoor

/-
  Plain mathematics of parts of 32 bits. No Go in sight.
-/
namespace Go.Proofs.YthmocdabakkfhaaGreatDoor.Pt
set_option maxRecDepth 100000

/-- What parts stand for, the lowest first. -/
def pv : List Nat → Nat
  | [] => 0
  | d :: r => d + 4294967296 * pv r
def Sm (ds : List Nat) : Prop := ∀ d ∈ ds, d < 4294967296
/-- No nought at the top. -/
def Tr (ds : List Nat) : Prop := ds.length = 0 ∨ 4294967296 ^ (ds.length - 1) ≤ pv ds
/-- How many bits a number has. -/
def bl (n : Nat) : Nat := if n = 0 then 0 else n.log2 + 1

theorem rpos (k : Nat) : 0 < 4294967296 ^ k := Nat.pow_pos (by decide)
theorem sm_take {ds : List Nat} (k : Nat) (hs : Sm ds) : Sm (ds.take k) := fun x hx => hs x (List.mem_of_mem_take hx)
theorem sm_set {ds : List Nat} {k d : Nat} (hs : Sm ds) (hd : d < 4294967296) : Sm (ds.set k d) := by
  intro x hx
  rcases List.mem_or_eq_of_mem_set hx with h | h
  · exact hs x h
  · omega
end Go.Proofs.YthmocdabakkfhaaGreatDoor.Pt

/-
  Parts of 32 bits in memory, and the walks of the landed functions over them: trimmed, partsOf, timesAnd, bitLen, compare, minus.
-/
namespace Go.Proofs.YthmocdabakkfhaaGreatDoor
set_option maxRecDepth 100000
open Go.RowKit Pt

def c32 (ds : List Nat) : List Value := ds.map fun (d : Nat) => Value.int .u32 (d : Int)
/-- The slice v, all of block g's beginning, holds the parts ds. -/
def PU (w : World) (g : Nat) (v : Value) (ds : List Nat) : Prop :=
  ∃ cap, v = .slice (some ⟨g, 0, none⟩) ds.length cap ∧ Sm ds ∧ w.ownsRow 0 141 1 v ds.length (c32 ds)
/-- The slice v holds the number n, without noughts at the top. -/
def PR (w : World) (g : Nat) (v : Value) (n : Nat) : Prop := ∃ ds, PU w g v ds ∧ pv ds = n ∧ Tr ds

theorem c32_length (ds : List Nat) : (c32 ds).length = ds.length := by unfold c32; simp
theorem c32_set (ds : List Nat) (j d : Nat) : (c32 ds).set j (.int .u32 (d : Int)) = c32 (ds.set j d) := by unfold c32; rw [List.map_set]
theorem PU.lt {w : World} {g : Nat} {v : Value} {ds : List Nat} (h : PU w g v ds) : g < w.heap.size := by
  obtain ⟨cap, rfl, _, h3⟩ := h
  exact (h3.lt g rfl).2
theorem PR.lt {w : World} {g : Nat} {v : Value} {n : Nat} (h : PR w g v n) : g < w.heap.size := by
  obtain ⟨ds, h1, _⟩ := h; exact h1.lt
theorem PU.cap {w : World} {g cap k : Nat} {ds : List Nat} (h : PU w g (.slice (some ⟨g, 0, none⟩) k cap) ds) : k = ds.length ∧ k ≤ cap ∧ cap ≤ maxLen := by
  obtain ⟨cap', e, _, h3⟩ := h
  simp at e
  rcases h3.2 with ⟨k, _⟩ | ⟨g', cap', cur, e2, _, _, r1, r2, _⟩
  · simp at k
  · simp at e2
    obtain ⟨rfl, rfl⟩ := e
    exact ⟨rfl, by omega, by omega⟩
theorem PU.cell {w : World} {g : Nat} {v : Value} {ds : List Nat} (h : PU w g v ds) {j : Nat} (hj : j < ds.length) : w.cell? ⟨g, j, none⟩ = some (.int .u32 (ds.getD j 0 : Nat)) := by
  obtain ⟨cap, rfl, _, h3⟩ := h
  rw [h3.cellAt j (by omega), c32, List.getElem?_map, List.getElem?_eq_getElem hj, List.getD_eq_getElem?_getD, List.getElem?_eq_getElem hj]
  rfl
theorem PU.frozen {w : World} {g : Nat} {v : Value} {ds : List Nat} (h : PU w g v ds) (j : Nat) : w.frozen? ⟨g, j, none⟩ = false := by
  obtain ⟨cap, rfl, _, h3⟩ := h
  exact h3.frozenAt j
theorem PU.stored {w : World} {g : Nat} {v : Value} {ds : List Nat} (h : PU w g v ds) {j d : Nat} (hd : d < 4294967296) : PU (w.setCell ⟨g, j, none⟩ (.int .u32 (d : Int))) g v (ds.set j d) := by
  obtain ⟨cap, rfl, h2, h3⟩ := h
  refine ⟨cap, by rw [List.length_set], sm_set h2 hd, ?_⟩
  have := (h3.stored j (.int .u32 (d : Int))).1
  rw [c32_set] at this
  rw [List.length_set]
  exact this
theorem ownsRow_far {w w' : World} {e s n g : Nat} {v : Value} {xs : List Value} (h : w.ownsRow 0 e s v n xs) (hg : w'.heap[g]? = w.heap[g]?) (hv : v.ownBlock = some g) : w'.ownsRow 0 e s v n xs := by
  refine ⟨h.1, ?_⟩
  rcases h.2 with hn | ⟨g', cap, cur, rfl, h0, hg', rest⟩
  · exact .inl hn
  · refine .inr ⟨g', cap, cur, rfl, h0, ?_, rest⟩
    have e : g' = g := by simpa [Value.ownBlock] using hv
    rw [e, hg, ← e]
    exact hg'
theorem PU.other {w w' : World} {g b : Nat} {v : Value} {ds : List Nat} (h : PU w g v ds) (hg : w.grownBy w' (some b)) (hb : g ≠ b) : PU w' g v ds := by
  have hl := h.lt
  obtain ⟨cap, rfl, h2, h3⟩ := h
  exact ⟨cap, rfl, h2, ownsRow_far h3 (hg.block g hl (by simpa using hb)) rfl⟩
theorem PR.other {w w' : World} {g b : Nat} {v : Value} {n : Nat} (h : PR w g v n) (hg : w.grownBy w' (some b)) (hb : g ≠ b) : PR w' g v n := by
  obtain ⟨ds, h1, h2⟩ := h
  exact ⟨ds, h1.other hg hb, h2⟩
theorem PU.below {w w' : World} {B g : Nat} {v : Value} {ds : List Nat} (h : PU w g v ds) (hg : Below B w w') (hb : g < B) : PU w' g v ds := by
  obtain ⟨cap, rfl, h2, h3⟩ := h
  exact ⟨cap, rfl, h2, ownsRow_far h3 (hg.block g hb) rfl⟩
theorem PR.below {w w' : World} {B g : Nat} {v : Value} {n : Nat} (h : PR w g v n) (hg : Below B w w') (hb : g < B) : PR w' g v n := by
  obtain ⟨ds, h1, h2⟩ := h
  exact ⟨ds, h1.below hg hb, h2⟩
theorem PU.take {w : World} {g k cap : Nat} {ds : List Nat} (h : PU w g (.slice (some ⟨g, 0, none⟩) ds.length cap) ds) (hk : k ≤ ds.length) : PU w g (.slice (some ⟨g, 0, none⟩) k cap) (ds.take k) := by
  obtain ⟨cap', e, h2, h3⟩ := h
  have hl : (ds.take k).length = k := by rw [List.length_take]; omega
  refine ⟨cap, by rw [hl], sm_take k h2, ?_⟩
  rw [hl]
  refine ⟨by rw [c32_length, hl]; omega, ?_⟩
  rcases h3.2 with ⟨c, _⟩ | ⟨g', cap2, cur, e2, h0, hg, r1, r2, r3, r4⟩
  · simp at c
  · simp at e2
    obtain ⟨rfl, rfl⟩ := e2
    refine .inr ⟨g, cap, cur, rfl, h0, hg, by omega, r2, r3, ?_⟩
    have : List.take (k * 1) cur.toList = List.take (k * 1) (List.take (ds.length * 1) cur.toList) := by rw [List.take_take, Nat.min_eq_left (by omega)]
    rw [this, r4, Nat.mul_one]
    unfold c32
    rw [List.map_take]
theorem gb_refl (w : World) (r : Option Nat) : w.grownBy w r := ⟨rfl, rfl, rfl, Nat.le_refl _, fun _ _ _ => rfl⟩
theorem gb_new {a b c : World} {g g' : Nat} (h : a.grownBy b (some g)) (k : b.grownBy c (some g')) (hg : g' = g ∨ a.heap.size ≤ g') : a.grownBy c (some g) :=
  ⟨k.os.trans h.os, k.tape.trans h.tape, k.output.trans h.output, Nat.le_trans h.size k.size, fun i hi hn =>
    (k.block i (Nat.lt_of_lt_of_le hi h.size) (by
      rcases hg with e | e
      · rw [e]; exact hn
      · intro c; simp at c; omega)).trans (h.block i hi hn)⟩
theorem gb_drew {a b : World} {r : Option Nat} (h : a.grownBy b r) (n : Nat) : a.grownBy (b.drewN n) r := ⟨h.os, h.tape, h.output, h.size, h.block⟩

end Go.Proofs.YthmocdabakkfhaaGreatDoor

/-
  The walks of timesAnd, minus, compare, bitLen, partsOf and Clone over parts.
-/
namespace Go.Proofs.YthmocdabakkfhaaGreatDoor
set_option maxRecDepth 100000
open Go.RowKit Pt

/-- As the program compares. -/
def cmpI (n m : Nat) : Int := if n < m then -1 else if n = m then 0 else 1
end Go.Proofs.YthmocdabakkfhaaGreatDoor
