/-
  Layer 20: a law's own calls: bytes are copied, and handed to a disk of its own.
-/
import Derived.Test.YtgkgflkcnigeaaaDkLives
namespace Go.Proofs.Ytgkgflkcnigeaaa
set_option maxRecDepth 100000
open Go.RowKit Txt Go.Maps Dk

namespace Dk
/-- append([]byte{}, x...), as an operation. -/
theorem wpList_copy_fb {w : World} {ops : Array Oper} {rest : List Oper} {o : Oper} {a : Act} {Q : Exit → Act → World → Prop} (hg : o.guard = none) (s x : Operand)
    (ho : o.op = .call { callee := .builtin .append, args := #[s, x], argTypes := #[33, 33] }) (hs : a.eval s = .slice (some ⟨w.heap.size, 0, none⟩) 0 0) (xv : Value) (k : List Nat) (hx : a.eval x = xv) (hk : BR w xv k) (hlen : k.length ≤ 140737488355328)
    (h : ∀ a' c' w', FB w' (.slice a' k.length c') k → (∀ g, (Value.slice a' k.length c').ownBlock = some g → w.heap.size ≤ g) → Below w.heap.size w w' → wpList Try.prog ops Q rest (a.put o.dst (.slice a' k.length c')) w') :
    wpList Try.prog ops Q (o :: rest) a (w.alloc (.cells #[] 5)) := by
  have hb : Below w.heap.size w (w.alloc (.cells #[] 5)) := (Below.refl _ _).alloc (Nat.le_refl _) _
  have hf : FB (w.alloc (.cells #[] 5)) (.slice (some ⟨w.heap.size, 0, none⟩) 0 0) [] := ⟨(fun d h => by cases h), Or.inr ⟨w.heap.size, 0, #[], rfl, heap_alloc_new _ _, Nat.le_refl _, Nat.le_refl _, by unfold maxLen; simp, rfl⟩⟩
  refine wpList_append_fb hg s x ho _ [] hs hf xv k hx (hk.below hb (Nat.le_refl _)) (by simpa using hlen) fun a' c' w' q1 q2 q3 => ?_
  simp only [List.length_nil, Nat.zero_add, List.nil_append] at q1 q3 ⊢
  replace q2 : (w.alloc (.cells #[] 5)).grownBy w' (some w.heap.size) := q2
  refine h a' c' w' q1 (fun g e => ?_) (hb.trans ((Below.refl _ _).grown q2 hb.size fun k hk => Nat.le_of_eq (by simpa using hk)))
  rcases q3 with c | c
  · rw [c] at e
    exact Nat.le_of_eq (by simpa [Value.ownBlock] using e)
  · rw [c] at e
    have : (w.alloc (.cells #[] 5)).heap.size = g := by simpa using e
    rw [← this]
    exact hb.size
end Dk

theorem lv_append_c (w0 w w' : World) (db : Nat) (S : Ps) (s : List UInt8) (v : Value) (l : List Nat) (h : Lv w0 w db S) (hb : Below w.heap.size w w') (hf : FB w' v l) (hg : ∀ g, v.ownBlock = some g → w.heap.size ≤ g) (hs : s.length ≤ 9223372036854775807) (hl : S.P.length ≤ 1000000000) :
    Calls Try.prog 14 #[.pointer (some ⟨db, 0, none⟩), .string (bs s), v] w' fun e w'' => e = .returned (.int .i64 (appP S s l).1) ∧ Lv w0 w'' db (appP S s l).2 :=
  lv_append w0 w w' db S s v l h hb hs hf.br (fun X hX w'' k => (hf.wx k fun g e hx => by have := hX g hx; have := hg g e; omega).br) hl
theorem lv_crash_c (w0 w w' : World) (db : Nat) (S : Ps) (keep : Int) (v : Value) (l : List Nat) (h : Lv w0 w db S) (hb : Below w.heap.size w w') (hf : FB w' v l) (hg : ∀ g, v.ownBlock = some g → w.heap.size ≤ g) (hk : keep ≤ 9223372036854775807) (hl : S.P.length ≤ 1000000000) :
    Calls Try.prog 16 #[.pointer (some ⟨db, 0, none⟩), .int .i64 keep, v] w' fun e w'' => e = .returned (.tuple #[]) ∧ Lv w0 w'' db (crashP S keep l) :=
  lv_crash w0 w w' db S keep v l h hb hk hf.br (fun X hX w'' k => (hf.wx k fun g e hx => by have := hX g hx; have := hg g e; omega).br) hl

namespace Dk
/-! ### what the law's own disk comes to -/
theorem app_new (sz : Nat) (s : List UInt8) (l : List Nat) (hn : nmB s = true) (h : l.length ≤ sz) : appP ⟨sz, 0, 0, []⟩ s l = (0, ⟨sz, 0, 0, [⟨s, l, 0⟩]⟩) := by
  have e1 : stepC 0 0 = (0, 0, 0) := rfl
  have e2 : refuseC s l.length sz (lenP []) = 0 := by
    unfold refuseC
    rw [if_neg (by rw [hn]; decide), if_neg (by rw [lenP_nil]; omega)]
  unfold appP
  simp only [e1, e2]
  rfl
theorem sync_one (sz : Nat) (s : List UInt8) (l : List Nat) (fa : Nat) : syncP ⟨sz, 0, 0, [⟨s, l, fa⟩]⟩ s = (0, ⟨sz, 0, 0, [⟨s, l, l.length⟩]⟩) := by
  have e1 : stepC 0 0 = (0, 0, 0) := rfl
  unfold syncP
  simp only [e1]
  have e2 : lookP [⟨s, l, fa⟩] s = some ⟨s, l, fa⟩ := by simp [lookP]
  simp [e2, setP, Ps.pow]
theorem app_one (sz : Nat) (s : List UInt8) (l m : List Nat) (fa : Nat) (hn : nmB s = true) (h : l.length + m.length ≤ sz) : appP ⟨sz, 0, 0, [⟨s, l, fa⟩]⟩ s m = (0, ⟨sz, 0, 0, [⟨s, l ++ m, fa⟩]⟩) := by
  have e1 : stepC 0 0 = (0, 0, 0) := rfl
  have e2 : refuseC s m.length sz (lenP [⟨s, l, fa⟩]) = 0 := by
    unfold refuseC
    rw [if_neg (by rw [hn]; decide), if_neg (by rw [lenP_cons, lenP_nil]; simp only []; omega)]
  have e3 : lookP [⟨s, l, fa⟩] s = some ⟨s, l, fa⟩ := by simp [lookP]
  unfold appP
  simp only [e1, e2]
  simp [layP, e3, setP, Ps.pow]
theorem crash_one (sz : Nat) (s : List UInt8) (a b t : List Nat) (keep : Int) (pw lf : Int) (h : a.length + b.length + t.length ≤ sz) : crashP ⟨sz, pw, lf, [⟨s, a ++ b, a.length⟩]⟩ keep t = ⟨sz, 0, 0, [⟨s, a ++ b.take keep.toNat ++ (if b = [] then [] else t), (a ++ b.take keep.toNat ++ (if b = [] then [] else t)).length⟩]⟩ := by
  have e0 : tearP keep.toNat [⟨s, a ++ b, a.length⟩] = [⟨s, a ++ b.take keep.toNat, a.length⟩] := by
    show [trP keep.toNat ⟨s, a ++ b, a.length⟩] = _
    unfold trP
    simp only [List.length_append, Nat.add_sub_cancel_left]
    rw [List.take_append, List.take_of_length_le (by omega), Nat.add_sub_cancel_left]
    congr 3
    by_cases c : b.length ≤ keep.toNat
    · rw [Nat.min_eq_left c, List.take_of_length_le (Nat.le_refl _), List.take_of_length_le c]
    · rw [Nat.min_eq_right (by omega)]
  unfold crashP
  simp only [e0]
  by_cases c : b = []
  · subst c
    have e1 : tornP [⟨s, a ++ [], a.length⟩] = [] := by simp [tornP]
    rw [e1]
    simp [fastP]
  · have e1 : tornP [⟨s, a ++ b, a.length⟩] = [s] := by
      have : 0 < b.length := List.length_pos_iff.2 c
      simp [tornP, this]
    have e2 : lookP [⟨s, a ++ b.take keep.toNat, a.length⟩] s = some ⟨s, a ++ b.take keep.toNat, a.length⟩ := by simp [lookP]
    have e3 : min t.length (sz - lenP [⟨s, a ++ b.take keep.toNat, a.length⟩]) = t.length := by
      rw [lenP_cons, lenP_nil]
      simp only [List.length_append, List.length_take]
      omega
    rw [e1, if_neg c]
    show (⟨sz, 0, 0, (layT sz t [⟨s, a ++ b.take keep.toNat, a.length⟩] s).map fastP⟩ : Ps) = _
    unfold layT
    rw [e3, List.take_length]
    unfold layP
    rw [e2]
    simp [setP, fastP]
theorem bsN_app (l m : List Nat) : bsN l ++ bsN m = bsN (l ++ m) := by
  unfold bsN
  rw [List.map_append]
  apply ByteArray.ext
  rw [ByteArray.data_append]
  have e : ∀ x : List Int, (strOfNums x).data = (strOfNums x).data.toList.toArray := fun x => by simp
  rw [e (l.map Int.ofNat), e (m.map Int.ofNat), e (l.map Int.ofNat ++ m.map Int.ofNat), strOfNums_data, strOfNums_data, strOfNums_data]
  simp
theorem bsN_size (l : List Nat) : (bsN l).size = l.length := by unfold bsN; rw [strOfNums_size, List.length_map]
end Dk

end Go.Proofs.Ytgkgflkcnigeaaa
