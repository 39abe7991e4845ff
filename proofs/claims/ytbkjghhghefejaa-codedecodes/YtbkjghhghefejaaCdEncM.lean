/-
  Layer 7: what the bytes of a tree are.
-/
import Derived.Test.YtbkjghhghefejaaCdText
import Derived.Test.YtbkjghhghefejaaCdOwn
namespace Go.Proofs.Ytbkjghhghefejaa
open Go.RowKit Crc

def foldE : (ts : List Tr) → (∀ t, t ∈ ts → List Nat → Nat ⊕ List Nat) → List Nat → Nat ⊕ List Nat
  | [], _, l => .inr l
  | t :: ts, f, l => match f t List.mem_cons_self l with
    | .inl x => .inl x
    | .inr m => foldE ts (fun t h => f t (List.mem_cons_of_mem _ h)) m
/-- The bytes of a tree behind others, or why there are none (1 ErrArg, 2 ErrLong); D: how many lists it may still lie in. -/
def encT : Tr → Nat → List Nat → Nat ⊕ List Nat
  | .mk k n s ts, D, l =>
    if k = 0 then (if l.length + 9 ≤ 1048576 then .inr (l ++ ([0] ++ be n 8)) else .inl 2)
    else if k = 1 then (if l.length + 5 + s.size ≤ 1048576 then .inr (l ++ ([1] ++ be s.size 4 ++ tx s)) else .inl 2)
    else if k = 2 then (match D with
      | 0 => .inl 2
      | D + 1 => if l.length + 5 ≤ 1048576 then foldE ts (fun t _ l => encT t D l) (l ++ ([2] ++ be ts.length 4)) else .inl 2)
    else .inl 1
def encL (ts : List Tr) (D : Nat) (l : List Nat) : Nat ⊕ List Nat := foldE ts (fun t _ l => encT t D l) l
theorem encT_mk (k : Int) (n : Nat) (s : ByteArray) (ts : List Tr) (D : Nat) (l : List Nat) : encT (.mk k n s ts) D l =
    if k = 0 then (if l.length + 9 ≤ 1048576 then .inr (l ++ ([0] ++ be n 8)) else .inl 2)
    else if k = 1 then (if l.length + 5 + s.size ≤ 1048576 then .inr (l ++ ([1] ++ be s.size 4 ++ tx s)) else .inl 2)
    else if k = 2 then (match D with
      | 0 => .inl 2
      | D + 1 => if l.length + 5 ≤ 1048576 then encL ts D (l ++ ([2] ++ be ts.length 4)) else .inl 2)
    else .inl 1 := by
  rw [encT.eq_def]
  cases D <;> rfl
theorem encL_nil (D : Nat) (l : List Nat) : encL [] D l = .inr l := rfl
theorem encL_cons (t : Tr) (ts : List Tr) (D : Nat) (l : List Nat) : encL (t :: ts) D l = match encT t D l with
    | .inl x => .inl x
    | .inr m => encL ts D m := rfl

theorem encL_append : ∀ (ts us : List Tr) (D : Nat) (l : List Nat), encL (ts ++ us) D l = match encL ts D l with | .inl x => .inl x | .inr m => encL us D m
  | [], us, D, l => by simp [encL_nil]
  | t :: ts, us, D, l => by
    simp only [List.cons_append, encL_cons]
    cases encT t D l with
    | inl x => rfl
    | inr m => exact encL_append ts us D m

theorem encL_take (ts : List Tr) (i : Nat) (h : i < ts.length) (D : Nat) (l m : List Nat) (hm : encL (ts.take i) D l = .inr m) : encL (ts.take (i + 1)) D l = encT ts[i] D m := by
  rw [List.take_succ_eq_append_getElem h, encL_append, hm]
  simp only [encL_cons, encL_nil]
  cases encT ts[i] D m <;> rfl

theorem encL_stop (ts : List Tr) (i : Nat) (D : Nat) (l : List Nat) (x : Nat) (hm : encL (ts.take i) D l = .inl x) : encL ts D l = .inl x := by
  conv => lhs; rw [← List.take_append_drop i ts]
  rw [encL_append, hm]

end Go.Proofs.Ytbkjghhghefejaa
