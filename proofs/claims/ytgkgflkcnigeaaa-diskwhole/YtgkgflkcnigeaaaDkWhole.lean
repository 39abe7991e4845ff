/-
  Layer 20: what was synced whole is there behind a crash, plainly; what DiskWhole's disk comes to.
-/
import Derived.Test.YtgkgflkcnigeaaaDkSteps
namespace Go.Proofs.Ytgkgflkcnigeaaa
set_option maxRecDepth 100000
open Go.RowKit Txt Go.Maps Dk

namespace Dk
theorem wanted_if {c : Bool} {A E : Prop} (h : c = true) (a : A) : if c = true then A else E := by rw [if_pos h]; exact a
/-- append, as an operation of a region that draws its order. -/
theorem wp_append_fb {w : World} {o : Oper} {a : Act} {K : Act → World → Prop} {Q : Exit → Act → World → Prop} (s x : Operand)
    (ho : o.op = .call { callee := .builtin .append, args := #[s, x], argTypes := #[33, 33] }) (v xv : Value) (hs : a.eval s = v) (hx : a.eval x = xv) {r : Value} {w' : World} (hr : ∀ ty, (Builtin.append_ #[33, 33] ty #[v, xv]).run Try.prog w = .ok r w')
    (h : K (a.put o.dst r) w') : Oper.wp Try.prog o a w K Q := by
  unfold Oper.wp execOp
  simp only [ho, resolve, invoke, builtin, Sem.run_bind, Sem.run_pure, Result.andThen_ok, List.map_toArray, List.map_cons, List.map_nil, hs, hx, hr]
  exact h
theorem append_ty (t : TypeId) (args : Array Value) (ty ty' : TypeId) : Builtin.append_ #[t, t] ty args = Builtin.append_ #[t, t] ty' args := rfl
theorem look_tear (k : Nat) (P : List Pl) (s : List UInt8) : lookP (tearP k P) s = (lookP P s).map (trP k) := by
  unfold lookP tearP
  rw [List.find?_map]; rfl
theorem look_fast (P : List Pl) (s : List UInt8) : lookP (P.map fastP) s = (lookP P s).map fastP := by
  unfold lookP
  rw [List.find?_map]; rfl
theorem look_set {P : List Pl} {s t : List UInt8} {h : Pl → Pl} (hn : ∀ f, (h f).nm = f.nm) (hne : s ≠ t) : lookP (setP P t h) s = lookP P s := by
  unfold lookP setP
  rw [List.find?_map]
  have e : ((fun f : Pl => f.nm == s) ∘ fun f => if f.nm = t then h f else f) = fun f => f.nm == s := by
    funext f
    show ((if f.nm = t then h f else f).nm == s) = _
    split
    · rw [hn]
    · rfl
  rw [e]
  cases c : P.find? fun f => f.nm == s with
  | none => rfl
  | some f =>
    have := List.find?_some c
    have e2 : f.nm = s := by simpa using this
    show some (if f.nm = t then h f else f) = some f
    rw [if_neg (by rw [e2]; exact hne)]
theorem look_ins {f : Pl} {s : List UInt8} (hne : f.nm ≠ s) : ∀ P : List Pl, lookP (insP f P) s = lookP P s
  | [] => by simp [lookP, insP, hne]
  | g :: r => by
    unfold insP
    split
    · unfold lookP
      rw [List.find?_cons_of_neg (by simpa using hne)]
    · have ih := look_ins hne r
      unfold lookP at ih ⊢
      by_cases c : g.nm = s
      · rw [List.find?_cons_of_pos (by simp [c]), List.find?_cons_of_pos (by simp [c])]
      · rw [List.find?_cons_of_neg (by simp [c]), List.find?_cons_of_neg (by simp [c]), ih]
theorem look_lay {P : List Pl} {s t : List UInt8} {l : List Nat} (hne : s ≠ t) : lookP (layP P t l) s = lookP P s := by
  unfold layP
  cases lookP P t with
  | some f => exact look_set (h := fun f => (⟨f.nm, f.l ++ l, f.fa⟩ : Pl)) (fun _ => rfl) hne
  | none => exact look_ins (fun e => hne e.symm) P
theorem look_fold {sz : Nat} {tail : List Nat} {s : List UInt8} : ∀ (T : List (List UInt8)) (P : List Pl), s ∉ T → lookP (T.foldl (layT sz tail) P) s = lookP P s
  | [], _, _ => rfl
  | t :: r, P, h => by
    show lookP (r.foldl (layT sz tail) (layT sz tail P t)) s = _
    rw [look_fold r _ fun hm => h (List.mem_cons_of_mem _ hm)]
    exact look_lay fun e => h (by rw [e]; exact List.mem_cons_self)
theorem inj_ord {P : List Pl} (ho : OrdP P) {f g : Pl} (hf : f ∈ P) (hg : g ∈ P) (e : f.nm = g.nm) : f = g := by
  induction P with
  | nil => cases hf
  | cons a r ih =>
    obtain ⟨p1, p2⟩ := List.pairwise_cons.1 ho
    rcases List.mem_cons.1 hf with e1 | q1
    · rcases List.mem_cons.1 hg with e2 | q2
      · rw [e1, e2]
      · exact absurd (p1 g q2) (by rw [← e1, e]; exact List.lt_irrefl _)
    · rcases List.mem_cons.1 hg with e2 | q2
      · exact absurd (p1 f q1) (by rw [← e2, e]; exact List.lt_irrefl _)
      · exact ih p2 q1 q2
/-- What stands fast whole is there behind a crash. -/
theorem crash_keeps {S : Ps} {s : List UInt8} {a : List Nat} (ho : OrdP S.P) (h : lookP S.P s = some ⟨s, a, a.length⟩) (keep : Int) (t : List Nat) : lookP (crashP S keep t).P s = some ⟨s, a, a.length⟩ := by
  have hm := lookP_some h
  have hnt : s ∉ tornP S.P := fun hs => by
    obtain ⟨f, hf, hn⟩ := List.mem_map.1 hs
    have h2 := List.mem_filter.1 hf
    have e := inj_ord ho h2.1 hm.1 (by rw [hn])
    rw [e] at h2
    simp at h2
  have e1 : trP keep.toNat ⟨s, a, a.length⟩ = ⟨s, a, a.length⟩ := trP_same (Nat.le_refl _) (Nat.le_refl _)
  show lookP (((tornP S.P).foldl (layT S.sz t) (tearP keep.toNat S.P)).map fastP) s = _
  rw [look_fast, look_fold _ _ hnt, look_tear, h]
  simp only [Option.map_some]
  rw [e1]; rfl

def sF : List UInt8 := [102]
def sN : List UInt8 := [110, 101, 119]
theorem fn_lt : sF < sN := by decide
theorem fn_ne : sF ≠ sN := by decide
def two (sz : Nat) (pw lf : Int) (a b : List Nat) (fa : Nat) : Ps := ⟨sz, pw, lf, [⟨sF, a, a.length⟩, ⟨sN, b, fa⟩]⟩
theorem two_ord (a b : List Nat) (fa : Nat) : OrdP [⟨sF, a, a.length⟩, ⟨sN, b, fa⟩] := by
  unfold OrdP
  simp [fn_lt]
theorem two_look (a b : List Nat) (fa : Nat) : lookP [⟨sF, a, a.length⟩, ⟨sN, b, fa⟩] sF = some ⟨sF, a, a.length⟩ := by simp [lookP]
theorem two_new (a b : List Nat) (fa : Nat) : lookP [⟨sF, a, a.length⟩, ⟨sN, b, fa⟩] sN = some ⟨sN, b, fa⟩ := by
  unfold lookP
  rw [List.find?_cons_of_neg (by simpa using fn_ne), List.find?_cons_of_pos (by simp)]
theorem w_app {sz : Nat} {a b : List Nat} {pw lf pw' lf' r : Int} (hs : stepC pw lf = (r, pw', lf')) (hr : r = 0 ∨ r = 1) (hl : a.length + b.length ≤ sz) : appP ⟨sz, pw, lf, [⟨sF, a, a.length⟩]⟩ sN b = (if r = 1 then 200 else 0, two sz pw' lf' a b 0) := by
  have e2 : refuseC sN b.length sz (lenP [⟨sF, a, a.length⟩]) = 0 := by
    unfold refuseC
    rw [if_neg (by decide), if_neg (by rw [lenP_cons, lenP_nil]; simp only []; omega)]
  have e3 : layP [⟨sF, a, a.length⟩] sN b = [⟨sF, a, a.length⟩, ⟨sN, b, 0⟩] := by
    have e4 : lookP [⟨sF, a, a.length⟩] sN = none := by simp [lookP, fn_ne]
    unfold layP
    rw [e4]
    show insP ⟨sN, b, 0⟩ [⟨sF, a, a.length⟩] = _
    have : ¬ sN < sF := by decide
    simp [insP, this]
  unfold appP
  simp only [hs, e2, e3, if_true]
  rw [if_neg (by omega)]
  rfl
theorem w_sync0 {sz : Nat} {a b : List Nat} {pw lf pw' lf' r : Int} (hs : stepC pw lf = (r, pw', lf')) (hr : r ≠ 0) : syncP (two sz pw lf a b 0) sN = (200, two sz pw' lf' a b 0) := by
  unfold syncP two
  simp only [hs]
  rw [if_pos hr]; rfl
theorem w_sync1 {sz : Nat} {a b : List Nat} {pw lf pw' lf' : Int} (hs : stepC pw lf = (0, pw', lf')) : syncP (two sz pw lf a b 0) sN = (0, two sz pw' lf' a b b.length) := by
  unfold syncP two
  simp only [hs, two_new]
  simp [setP, fn_ne, Ps.pow]
theorem w_ren0 {sz : Nat} {a b : List Nat} {pw lf pw' lf' r : Int} {fa : Nat} (hs : stepC pw lf = (r, pw', lf')) (hr : r ≠ 0) : renameP (two sz pw lf a b fa) sN sF = (200, two sz pw' lf' a b fa) := by
  unfold renameP two
  simp only [hs]
  rw [if_pos hr]; rfl
theorem w_ren1 {sz : Nat} {a b : List Nat} {pw lf pw' lf' : Int} {fa : Nat} (hs : stepC pw lf = (0, pw', lf')) : renameP (two sz pw lf a b fa) sN sF = (0, ⟨sz, pw', lf', [⟨sF, b, fa⟩]⟩) := by
  have e : nmB sF = true := by decide
  unfold renameP two
  simp only [hs, two_new, e]
  have e1 : dropP (dropP [⟨sF, a, a.length⟩, ⟨sN, b, fa⟩] sN) sF = [] := by simp [dropP, fn_ne]
  simp [e1, insP, Ps.pow]
theorem whole_cases (a b : List Nat) (c : Nat) (hl : a.length + b.length ≤ 1048576) : ∃ x4 S4 y5 S5, appP ⟨1048576, 1, (c : Int), [⟨sF, a, a.length⟩]⟩ sN b = (x4, S4) ∧ syncP S4 sN = (y5, S5) ∧ S4.P.length ≤ 2 ∧ S5.P.length ≤ 2 ∧
    ((y5 = 200 ∧ OrdP S5.P ∧ lookP S5.P sF = some ⟨sF, a, a.length⟩) ∨ (y5 = 0 ∧ ∃ z6 S6, renameP S5 sN sF = (z6, S6) ∧ S6.P.length ≤ 2 ∧ OrdP S6.P ∧ ((z6 = 200 ∧ lookP S6.P sF = some ⟨sF, a, a.length⟩) ∨ (z6 = 0 ∧ lookP S6.P sF = some ⟨sF, b, b.length⟩)))) := by
  by_cases c0 : c = 0
  · subst c0
    have s1 : stepC 1 ((0 : Nat) : Int) = (1, 2, 0) := rfl
    have s2 : stepC 2 0 = (2, 2, 0) := rfl
    exact ⟨_, _, _, _, w_app s1 (Or.inr rfl) hl, w_sync0 s2 (by decide), Nat.le_refl _, Nat.le_refl _, Or.inl ⟨rfl, two_ord _ _ _, two_look _ _ _⟩⟩
  · have s1 : stepC 1 (c : Int) = (0, 1, (c : Int) - 1) := by unfold stepC; rw [if_pos rfl, if_pos (by omega)]
    by_cases c1 : c = 1
    · subst c1
      have s2 : stepC 1 (((1 : Nat) : Int) - 1) = (1, 2, 0) := rfl
      exact ⟨_, _, _, _, w_app s1 (Or.inl rfl) hl, w_sync0 s2 (by decide), Nat.le_refl _, Nat.le_refl _, Or.inl ⟨rfl, two_ord _ _ _, two_look _ _ _⟩⟩
    · have s2 : stepC 1 ((c : Int) - 1) = (0, 1, (c : Int) - 1 - 1) := by unfold stepC; rw [if_pos rfl, if_pos (by omega)]
      by_cases c2 : c = 2
      · subst c2
        have s3 : stepC 1 (((2 : Nat) : Int) - 1 - 1) = (1, 2, 0) := rfl
        exact ⟨_, _, _, _, w_app s1 (Or.inl rfl) hl, w_sync1 s2, Nat.le_refl _, Nat.le_refl _, Or.inr ⟨rfl, _, _, w_ren0 s3 (by decide), Nat.le_refl _, two_ord _ _ _, Or.inl ⟨rfl, two_look _ _ _⟩⟩⟩
      · have s3 : stepC 1 ((c : Int) - 1 - 1) = (0, 1, (c : Int) - 1 - 1 - 1) := by unfold stepC; rw [if_pos rfl, if_pos (by omega)]
        exact ⟨_, _, _, _, w_app s1 (Or.inl rfl) hl, w_sync1 s2, Nat.le_refl _, Nat.le_refl _, Or.inr ⟨rfl, _, _, w_ren1 s3, by show 1 ≤ 2; decide, List.pairwise_singleton _ _, Or.inr ⟨rfl, by simp [lookP]⟩⟩⟩
end Dk

end Go.Proofs.Ytgkgflkcnigeaaa
