/-
  Layer 7: what the landed reader and writer give up: panics with an Errno.
-/
import Derived.Test.YtbkjghhghefejaaCdCount
import Derived.Test.YtbkjghhghefejaaCdNumber
import Derived.WalkSmall
namespace Go.Proofs.Ytbkjghhghefejaa
open Go.RowKit Crc

/-- Given up, with this Errno: 1 ErrArg, 2 ErrLong, 3 ErrShort, 4 ErrForm as the reader and the writer number them. -/
def gaveUp (x : Int) : Ending := .panicked [{ v := .iface 29 (.int .i64 x), recovered := false }]

set_option maxHeartbeats 400000 in
theorem take_short (b H m : Nat) (v : Value) (l : List Nat) (w : World) (h : RD w b H v l) (hm : l.length < m) :
    Calls Try.prog 36 #[.pointer (some ⟨b, 0, none⟩), .int .i64 m] w fun e w' => e = gaveUp 3 ∧ w' = w := by
  have hc := h.c
  obtain ⟨a, n, cap, rfl, h1⟩ : ∃ a n cap, v = .slice a n cap ∧ n = l.length := by
    obtain ⟨_, a, cap, e, _⟩ := h.br; exact ⟨a, _, cap, e, rfl⟩
  have hm1 : (m : Int) > (n : Int) := by omega
  clear h h1 hm
  go_enter Try.func36, Try.ntmps36
  go_wp2
  exact ⟨rfl, rfl, rfl⟩

set_option maxHeartbeats 400000 in
theorem room_long (b B m : Nat) (v : Value) (l : List Nat) (w : World) (h : WR w b B v l) (hl : 1048576 < l.length + m) (hl2 : l.length ≤ 1048576) :
    Calls Try.prog 34 #[.pointer (some ⟨b, 0, none⟩), .int .i64 m] w fun e w' => e = gaveUp 2 ∧ w' = w := by
  have hc := h.c
  obtain ⟨a, cap, rfl, h1⟩ := h.ow.shape
  clear h
  generalize l.length = n at *
  have hm1 : (m : Int) > 1048576 - (n : Int) := by omega
  go_enter Try.func34, Try.ntmps34
  go_wp2
  exact ⟨rfl, rfl, rfl⟩

set_option maxHeartbeats 400000 in
theorem lay_long (b B c : Nat) (v : Value) (l : List Nat) (w : World) (h : WR w b B v l) (hl : l.length = 1048576) :
    Calls Try.prog 32 #[.pointer (some ⟨b, 0, none⟩), .int .u8 c] w fun e w' => e = gaveUp 2 ∧ w' = w := by
  have hroom := room_long b B 1 v l w h (by omega) (by omega)
  clear h
  go_enter Try.func32, Try.ntmps32
  go_wp2_with fail
  refine hroom.mono ?_
  rintro e w1 ⟨rfl, rfl⟩
  unfold gaveUp
  go_wp2
  exact ⟨rfl, rfl, rfl⟩

end Go.Proofs.Ytbkjghhghefejaa
