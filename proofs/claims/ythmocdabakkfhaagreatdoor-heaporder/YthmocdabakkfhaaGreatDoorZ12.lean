/-
  TxtMath, DecText, DecRead, DecRead2, DigNew, DecTen
-/
import Derived.Lib.Strings
import Derived.Test.YthmocdabakkfhaaGreatDoorZ11

/-
  Plain mathematics of texts as lists of bytes: digits, and what a numeral says. No Go in sight.
-/
namespace Go.Proofs.YthmocdabakkfhaaGreatDoor.Txt
set_option maxRecDepth 100000

def bs (l : List UInt8) : ByteArray := ⟨l.toArray⟩
def isD (c : UInt8) : Bool := decide (48 ≤ c.toNat ∧ c.toNat ≤ 57)
/-- What digits say. -/
def dv : List UInt8 → Nat → Nat
  | [], n => n
  | c :: r, n => dv r (n * 10 + (c.toNat - 48))
def AllD (l : List UInt8) : Prop := ∀ c ∈ l, isD c = true
/-! A numeral. -/
def dig (l : List UInt8) : List UInt8 := l.takeWhile isD
def rst (l : List UInt8) : List UInt8 := l.dropWhile isD
/-- Behind the e and the sign. -/
def expD (neg : Bool) (l : List UInt8) : Option Int := if dig l = [] then none else if rst l = [] then some (if neg then -(dv (dig l) 0 : Int) else dv (dig l) 0) else none
/-- Behind the e. -/
def expS (l : List UInt8) : Option Int :=
  match l with
  | [] => none
  | c :: r => if c.toNat = 45 then expD true r else if c.toNat = 43 then expD false r else expD false (c :: r)
/-- The e, or nothing at all. -/
def expo (l : List UInt8) : Option Int :=
  match l with
  | [] => some 0
  | c :: r => if c.toNat = 101 ∨ c.toNat = 69 then expS r else none
/-- The digits and the power of ten. -/
def numL (l : List UInt8) : Option (List UInt8 × Int) :=
  if dig l = [] then none else
  match rst l with
  | [] => some (dig l, 0)
  | c :: r => if c.toNat = 46 then (if dig r = [] then none else (expo (rst r)).map fun e => (dig l ++ dig r, e - (dig r).length))
              else (expo (c :: r)).map fun e => (dig l, e)

end Go.Proofs.YthmocdabakkfhaaGreatDoor.Txt

/-
  Texts: the landed cutDigits and the library's HasPrefix of one byte, walked.
-/
namespace Go.Proofs.YthmocdabakkfhaaGreatDoor
set_option maxRecDepth 100000
open Go.RowKit Txt

/-- Whether a text begins with a byte. -/
def hp (c : UInt8) (l : List UInt8) : Bool := match l with | [] => false | a :: _ => a == c
end Go.Proofs.YthmocdabakkfhaaGreatDoor

/-
  The landed readExp, walked.
-/
namespace Go.Proofs.YthmocdabakkfhaaGreatDoor
set_option maxRecDepth 100000
open Go.RowKit Txt

def cl (x : Int) : Int := max (min x 40000) (-40000)
def expV : Option Int → Value
  | none => .tuple #[.int .i64 0, .bool false]
  | some x => .tuple #[.int .i64 (cl x), .bool true]
end Go.Proofs.YthmocdabakkfhaaGreatDoor

/-
  The landed readExp of any text, and read, walked.
-/
namespace Go.Proofs.YthmocdabakkfhaaGreatDoor
set_option maxRecDepth 100000
open Go.RowKit Txt

/-- What the program holds for an exponent. -/
def Held (x E : Int) : Prop := x = E ∨ (39000 ≤ x ∧ 39000 ≤ E ∧ x ≤ 41000) ∨ (x ≤ -39000 ∧ E ≤ -39000 ∧ -41000 ≤ x)
end Go.Proofs.YthmocdabakkfhaaGreatDoor

/-
  Trim, Sum and Minus once more: what they hand back lies in a block of its own.
-/
namespace Go.Proofs.YthmocdabakkfhaaGreatDoor
set_option maxRecDepth 100000
open Go.RowKit Dg

/-- A slice whose block is not one of the first B. -/
def Fresh (B : Nat) (v : Value) : Prop := ∀ g, v.ownBlock = some g → B ≤ g
theorem Fresh.mono {B B' : Nat} {v : Value} (h : Fresh B v) (hb : B' ≤ B) : Fresh B' v := fun g hg => Nat.le_trans hb (h g hg)
end Go.Proofs.YthmocdabakkfhaaGreatDoor

/-
  Powers of ten: what the reference's Ten will need.
-/
namespace Go.Proofs.YthmocdabakkfhaaGreatDoor
set_option maxRecDepth 100000
open Go.RowKit Dg Flo

end Go.Proofs.YthmocdabakkfhaaGreatDoor
