/-
  Layer 20: the landed disk: names, power, room.
-/
import Derived.Test.YtgkgflkcnigeaaaDkDisk
import Derived.Test.YtgkgflkcnigeaaaShelf
import Derived.Deep.RegionWith
import Derived.Deep.LoopGhost
import Derived.Deep.RegionHeld3
import Derived.Shelf.RegionOpenPlain
namespace Go.Proofs.Ytgkgflkcnigeaaa
set_option maxRecDepth 100000
open Go.RowKit Txt Go.Maps

namespace Dk
theorem unfz {w : World} {g : Nat} {cs : Array Value} {t : TypeId} (h : w.heap[g]? = some (.cells cs t (0, 0))) (i : Nat) : w.frozen? ⟨g, i, none⟩ = false := by simp [World.frozen?, h]
/-- A disk in the block db, that counts u bytes as used, with these files; all its blocks are X. -/
structure Dv (w : World) (X : Nat → Prop) (db mb sz u : Nat) (pw lf : Int) (F : List Fl) : Prop where
  blk : w.heap[db]? = some (.cells #[.int .i64 sz, .int .i64 u, .map (some mb), .int .i64 pw, .int .i64 lf] 59 (0, 0))
  fs : Fs w mb F
  xd : X db
  xs : ∀ k, OX mb F k → X k
  xlt : ∀ k, X k → k < w.heap.size
theorem Dv.cells {w : World} {X : Nat → Prop} {db mb sz u : Nat} {pw lf : Int} {F : List Fl} (h : Dv w X db mb sz u pw lf F) :
    (w.cell? ⟨db, 0, none⟩ = some (.int .i64 sz) ∧ w.cell? ⟨db, 1, none⟩ = some (.int .i64 u) ∧ w.cell? ⟨db, 2, none⟩ = some (.map (some mb)) ∧ w.cell? ⟨db, 3, none⟩ = some (.int .i64 pw) ∧ w.cell? ⟨db, 4, none⟩ = some (.int .i64 lf)) ∧ ∀ i, w.frozen? ⟨db, i, none⟩ = false := by
  refine ⟨⟨?_, ?_, ?_, ?_, ?_⟩, unfz h.blk⟩ <;> (rw [Lib.cell_of_heap h.blk]; rfl)
theorem Fs.apart {w : World} {mb : Nat} {F : List Fl} (h : Fs w mb F) {db : Nat} {cs : Array Value} (hb : w.heap[db]? = some (.cells cs 59 (0, 0))) : ∀ k, OX mb F k → k ≠ db := by
  rintro k (rfl | ⟨f, hf, rfl | e⟩) ek
  · obtain ⟨es, clock, hm, -⟩ := h.map
    rw [ek, hb] at hm; cases hm
  · have := h.blk f hf
    rw [ek, hb] at this; simp at this
  · obtain ⟨cur, hc⟩ := (h.row f hf).lt e
    rw [ek, hb] at hc; simp at hc
theorem Dv.lt {w : World} {X : Nat → Prop} {db mb sz u : Nat} {pw lf : Int} {F : List Fl} (h : Dv w X db mb sz u pw lf F) : db < w.heap.size := lt_some h.blk
/-- What is written elsewhere leaves it. -/
theorem Dv.wx {w w' : World} {X Y : Nat → Prop} {db mb sz u : Nat} {pw lf : Int} {F : List Fl} (h : Dv w X db mb sz u pw lf F) (k : Wx Y w w') (hY : ∀ i, X i → ¬ Y i) : Dv w' X db mb sz u pw lf F :=
  ⟨k.blk (hY _ h.xd) h.blk, h.fs.wx k fun i hi => hY i (h.xs i hi), h.xd, h.xs, fun i hi => Nat.lt_of_lt_of_le (h.xlt i hi) k.size⟩
theorem Dv.below {w w' : World} {X : Nat → Prop} {db mb sz u : Nat} {pw lf : Int} {F : List Fl} (h : Dv w X db mb sz u pw lf F) (k : Below w.heap.size w w') : Dv w' X db mb sz u pw lf F :=
  h.wx (Wx.of_below (fun _ => False) k) fun _ _ hf => hf
/-- A cell of the disk's own block is written. -/
theorem Dv.set {w w' : World} {X : Nat → Prop} {db mb sz u : Nat} {pw lf : Int} {F : List Fl} (h : Dv w X db mb sz u pw lf F) (k : Wx (fun i => i = db) w w') {u' : Nat} {pw' lf' : Int}
    (hb : w'.heap[db]? = some (.cells #[.int .i64 sz, .int .i64 u', .map (some mb), .int .i64 pw', .int .i64 lf'] 59 (0, 0))) : Dv w' X db mb sz u' pw' lf' F :=
  ⟨hb, h.fs.wx k (h.fs.apart h.blk), h.xd, h.xs, fun i hi => Nat.lt_of_lt_of_le (h.xlt i hi) k.size⟩

/-! ### names -/
def inNm (b : UInt8) : Bool := (decide (97 ≤ b.toNat) && decide (b.toNat ≤ 122)) || (decide (48 ≤ b.toNat) && decide (b.toNat ≤ 57)) || decide (b.toNat = 45)
def nmB (s : List UInt8) : Bool := decide (1 ≤ s.length) && decide (s.length ≤ 32) && s.all inNm
theorem all_drop {s : List UInt8} {i : Nat} (h : i < s.length) : (s.drop i).all inNm = (inNm s[i] && (s.drop (i + 1)).all inNm) := by
  rw [List.drop_eq_getElem_cons h, List.all_cons]
end Dk
open Dk

set_option maxHeartbeats 1000000 in
theorem inName_any (b : UInt8) (w : World) : Calls Try.prog 46 #[.int .u8 b.toNat] w fun e w' => e = .returned (.bool (inNm b)) ∧ w' = w := by
  have hn : b.toNat < 256 := b.toNat_lt
  have HN : Hid (inNm b = ((decide (97 ≤ b.toNat) && decide (b.toNat ≤ 122)) || (decide (48 ≤ b.toNat) && decide (b.toNat ≤ 57)) || decide (b.toNat = 45))) := rfl
  generalize inNm b = R at *
  generalize b.toNat = n at *
  by_cases c1 : (n : Int) ≥ 97
  · by_cases c2 : (n : Int) ≤ 122
    · have hr : R = true := by rw [HN.out, decide_eq_true (by omega : 97 ≤ n), decide_eq_true (by omega : n ≤ 122)]; rfl
      subst hr
      clear HN
      go_enter Try.func46, Try.ntmps46
      go_wp2
      go_ret
      exact ⟨rfl, rfl⟩
    · have hr : R = false := by rw [HN.out, decide_eq_false (by omega : ¬ n ≤ 122), decide_eq_false (by omega : ¬ n ≤ 57), decide_eq_false (by omega : ¬ n = 45)]; simp
      subst hr
      have c3 : (n : Int) ≥ 48 := by omega
      have c4 : ¬ (n : Int) ≤ 57 := by omega
      have c5 : ((n : Int) == 45) = false := by rw [beq_eq_false_iff_ne]; omega
      clear HN
      go_enter Try.func46, Try.ntmps46
      go_wp2
      go_ret
      exact ⟨rfl, rfl⟩
  · by_cases c3 : (n : Int) ≥ 48
    · by_cases c4 : (n : Int) ≤ 57
      · have hr : R = true := by rw [HN.out, decide_eq_true (by omega : 48 ≤ n), decide_eq_true (by omega : n ≤ 57)]; simp
        subst hr
        clear HN
        go_enter Try.func46, Try.ntmps46
        go_wp2
        go_ret
        exact ⟨rfl, rfl⟩
      · have hr : R = false := by rw [HN.out, decide_eq_false (by omega : ¬ 97 ≤ n), decide_eq_false (by omega : ¬ n ≤ 57), decide_eq_false (by omega : ¬ n = 45)]; simp
        subst hr
        have c5 : ((n : Int) == 45) = false := by rw [beq_eq_false_iff_ne]; omega
        clear HN
        go_enter Try.func46, Try.ntmps46
        go_wp2
        go_ret
        exact ⟨rfl, rfl⟩
    · have hr : R = decide (n = 45) := by rw [HN.out, decide_eq_false (by omega : ¬ 97 ≤ n), decide_eq_false (by omega : ¬ 48 ≤ n)]; rfl
      have hr2 : R = ((n : Int) == 45) := by
        rw [hr, Bool.eq_iff_iff]
        simp only [decide_eq_true_eq, beq_iff_eq]; omega
      clear hr HN
      subst hr2
      go_enter Try.func46, Try.ntmps46
      go_wp2
      go_ret
      exact ⟨rfl, rfl⟩

set_option maxHeartbeats 1000000 in
theorem isName_any (s : List UInt8) (w : World) (hs : s.length ≤ 9223372036854775807) : Calls Try.prog 36 #[.string (bs s)] w fun e w' => e = .returned (.bool (nmB s)) ∧ w' = w := by
  have hsz := bs_size s
  have HG : Hid (∀ k (h : k < (bs s).size) (h2 : k < s.length), (bs s)[k]'h = s[k]'h2) := fun k h _ => bs_get s k h
  have HN : Hid (nmB s = (decide (1 ≤ s.length) && decide (s.length ≤ 32) && s.all inNm)) := rfl
  generalize nmB s = R at *
  generalize bs s = S at *
  by_cases c1 : ((S.size : Nat) : Int) < 1
  · have hr : R = false := by rw [HN.out, decide_eq_false (by omega)]; rfl
    subst hr
    clear HN HG
    go_enter Try.func36, Try.ntmps36
    go_wp2
    go_ret
    exact ⟨rfl, rfl⟩
  · by_cases c2 : ((S.size : Nat) : Int) > 32
    · have hr : R = false := by rw [HN.out, decide_eq_false (by omega : ¬ s.length ≤ 32)]; simp
      subst hr
      clear HN HG
      go_enter Try.func36, Try.ntmps36
      go_wp2
      go_ret
      exact ⟨rfl, rfl⟩
    · have hR : Hid ((s.drop 0).all inNm = R) := by
        show _ = _
        rw [HN.out, decide_eq_true (by omega : 1 ≤ s.length), decide_eq_true (by omega : s.length ≤ 32)]; rfl
      clear HN
      go_enter Try.func36, Try.ntmps36
      go_wp2_with fail
      go_loopg [14] s.length (fun k t14 wr => ∃ i : Nat, t14 = .int .i64 (i : Int) ∧ i ≤ s.length ∧ wr = w ∧ Hid (k = s.length - i ∧ (s.drop i).all inNm = R))
      case atStart => exact ⟨0, rfl, Nat.zero_le _, rfl, ⟨rfl, hR.out⟩⟩
      case round =>
        obtain ⟨i, rfl, hil, rfl, HI⟩ := hrel
        by_cases c : i < s.length
        · obtain ⟨hk, hI⟩ := HI.out
          have cS : i < S.size := by omega
          have gs := HG.out i cS c
          rw [all_drop c] at hI
          obtain ⟨b, hbb⟩ : ∃ b, b = s[i] := ⟨_, rfl⟩
          rw [← hbb] at gs hI
          have hcall := inName_any b wr
          clear HI hbb
          cases hb : inNm b with
          | true =>
            rw [hb] at hcall hI
            rw [Bool.true_and] at hI
            clear hb
            have HI2 := hide_p hI
            clear hI
            go_wp2_with fail
            refine hcall.mono ?_
            rintro e w' ⟨rfl, rfl⟩
            go_wp2_with fail
            go_roundg (s.length - (i + 1))
            case measure => omega
            case rel => exact ⟨i + 1, by go_num, by omega, rfl, ⟨rfl, HI2.out⟩⟩
          | false =>
            rw [hb] at hcall hI
            rw [Bool.false_and] at hI
            subst hI
            clear hb
            go_wp2_with fail
            refine hcall.mono ?_
            rintro e w' ⟨rfl, rfl⟩
            go_wp2
            go_ret
            exact ⟨rfl, rfl⟩
        · have e : i = s.length := by omega
          have hI := HI.out.2
          rw [e, List.drop_length] at hI
          have hr : R = true := hI.symm
          subst hr
          clear HI hI
          go_wp2
          go_ret
          exact ⟨rfl, rfl⟩

/-! ### power, room -/
namespace Dk
/-- A call is counted: what is answered, what power there is behind it. -/
def stepC (pw lf : Int) : Int × Int × Int := if pw = 1 then (if 0 < lf then (0, 1, lf - 1) else (1, 2, lf)) else (pw, pw, lf)
end Dk

set_option maxHeartbeats 1000000 in
theorem room_any (X : Nat → Prop) (db mb sz u : Nat) (pw lf : Int) (F : List Fl) (w : World) (h : Dv w X db mb sz u pw lf F) (h1 : u ≤ sz) (h2 : sz ≤ 67108864) :
    Calls Try.prog 35 #[.pointer (some ⟨db, 0, none⟩)] w fun e w' => e = .returned (.int .i64 (sz - u)) ∧ ∃ n, w' = w.drewN n := by
  have mixed : Try.prog.follows Departure.mixedOrders = true := by kernel_rfl
  obtain ⟨⟨c0, c1, c2, c3, c4⟩, fz⟩ := h.cells
  clear h
  go_enter Try.func35, Try.ntmps35
  go_wp2_with fail
  go_quiet (fail)
  go_wp2
  go_ret
  exact ⟨rfl, _, rfl⟩

set_option maxHeartbeats 1000000 in
theorem call_any (X : Nat → Prop) (db mb sz u : Nat) (pw lf : Int) (F : List Fl) (w : World) (h : Dv w X db mb sz u pw lf F) (h1 : 0 ≤ lf) (h2 : lf ≤ 9223372036854775807) :
    Calls Try.prog 31 #[.pointer (some ⟨db, 0, none⟩)] w fun e w' => ∃ r pw' lf', stepC pw lf = (r, pw', lf') ∧ e = .returned (.int .i64 r) ∧ Dv w' X db mb sz u pw' lf' F ∧ Wx (fun i => i = db) w w' := by
  obtain ⟨⟨c0, c1, c2, c3, c4⟩, fz⟩ := h.cells
  have HD := hide_p h
  have HP : Hid (∀ v, Wx (fun i => i = db) w (w.setCell ⟨db, 4, none⟩ v)) := fun v => Wx.set w 4 v rfl
  have HP3 : Hid (∀ v, Wx (fun i => i = db) w (w.setCell ⟨db, 3, none⟩ v)) := fun v => Wx.set w 3 v rfl
  have HB := hide_p h.blk
  clear h
  by_cases c : pw = 1
  · subst c
    by_cases d : lf > 0
    · have HS : Hid (stepC 1 lf = (0, 1, lf - 1)) := by show _ = _; unfold stepC; rw [if_pos rfl, if_pos (by omega)]
      go_enter Try.func31, Try.ntmps31
      go_wp2
      go_ret
      exact ⟨_, _, _, HS.out, rfl, HD.out.set (HP.out _) (heap_setCell_same _ _ 4 _ _ _ HB.out), HP.out _⟩
    · have HS : Hid (stepC 1 lf = (1, 2, lf)) := by show _ = _; unfold stepC; rw [if_pos rfl, if_neg (by omega)]
      go_enter Try.func31, Try.ntmps31
      go_wp2
      go_ret
      exact ⟨_, _, _, HS.out, rfl, HD.out.set (HP3.out _) (heap_setCell_same _ _ 3 _ _ _ HB.out), HP3.out _⟩
  · have HS : Hid (stepC pw lf = (pw, pw, lf)) := by show _ = _; unfold stepC; rw [if_neg c]
    have c' : (pw != 1) = true := by simpa using c
    go_enter Try.func31, Try.ntmps31
    go_wp2
    go_ret
    exact ⟨_, _, _, HS.out, rfl, HD.out, Wx.refl _ _⟩

end Go.Proofs.Ytgkgflkcnigeaaa
