/-
  HpFind, HpGet, HpBit, HpCtz, HpGap, HpTable
-/
import Derived.Laws.Bits64b
import Derived.Deep.QuietTactic
import Derived.BigQuiet
import Derived.Deep.RegionWith
import Derived.Deep.LoopGhost
import Derived.Lib.TrailingZeros
import Derived.Laws.Bits64
import Derived.Test.YthmocdabakkfhaaGreatDoorZ13

/-
  Layer 9: where a key lies: bucket, find.
-/
namespace Go.Proofs.YthmocdabakkfhaaGreatDoor
set_option maxRecDepth 100000
open Go.RowKit

/-- Which of n buckets is a hash's. -/
def bk (H n : Nat) : Nat := H &&& (n - 1)
theorem bk_lt (H : Nat) {n : Nat} (h : 0 < n) : bk H n < n := by
  have : bk H n ≤ n - 1 := Nat.and_le_right
  omega

set_option maxHeartbeats 1000000 in
theorem bucket_any (tb g n cap H : Nat) (w : World) (hc : w.cell? ⟨tb, 7, none⟩ = some (.slice (some ⟨g, 0, none⟩) n cap)) (h0 : 0 < n) (hn : n ≤ 1099511627776) (hH : H < 18446744073709551616) :
    Calls Tryz.prog 60 #[.pointer (some ⟨tb, 0, none⟩), .int .u64 (H : Int)] w fun e w' => e = .returned (.pointer (some ⟨g, bk H n, none⟩)) ∧ w' = w.drew := by
  have hb := bk_lt H h0
  have ha : bits .and .u64 (H : Int) ((n - 1 : Nat) : Int) = ((bk H n : Nat) : Int) := bits_and_u64_nat H (n - 1) hH (by omega)
  have hs : ((n : Int) - 1) = ((n - 1 : Nat) : Int) := by omega
  obtain ⟨j, hj⟩ : ∃ j, bk H n = j := ⟨_, rfl⟩
  rw [hj] at ha hb ⊢
  rw [← hs] at ha
  clear hs hj
  go_enter Tryz.func60, Tryz.ntmps60
  go_wp2_with fail
  go_region
  go_wp2
  go_ret
  exact ⟨rfl, rfl⟩

/-- An entry: its block, its key, its hash, its value. -/
structure En where
  b : Nat
  K : Int
  N : Int
  S : ByteArray
  O : Int
  H : Nat
  vK : Int
  vN : Int
  vS : ByteArray
  vO : Int
/-- It lies so in memory (its links apart). -/
def EnC (w : World) (e : En) : Prop :=
  w.cell? ⟨e.b, 0, none⟩ = some (.int .i64 e.K) ∧ w.cell? ⟨e.b, 1, none⟩ = some (.int .u64 e.N) ∧ w.cell? ⟨e.b, 2, none⟩ = some (.string e.S) ∧ w.cell? ⟨e.b, 3, none⟩ = some (.int .i64 e.O) ∧
  w.cell? ⟨e.b, 4, none⟩ = some (.int .i64 e.vK) ∧ w.cell? ⟨e.b, 5, none⟩ = some (.int .u64 e.vN) ∧ w.cell? ⟨e.b, 6, none⟩ = some (.string e.vS) ∧ w.cell? ⟨e.b, 7, none⟩ = some (.int .i64 e.vO) ∧
  w.cell? ⟨e.b, 8, none⟩ = some (.int .u64 e.H)
/-- The pointer to the first of a list of entries. -/
def hd : List En → Value
  | [] => .pointer none
  | e :: _ => .pointer (some ⟨e.b, 0, none⟩)
/-- Each entry's cell o leads to the next one, the last one's nowhere. -/
def Lk (w : World) (o : Nat) : List En → Prop
  | [] => True
  | e :: l => w.cell? ⟨e.b, o, none⟩ = some (hd l) ∧ Lk w o l
/-- Whether an entry is of a key. -/
def isE (K N : Int) (S : ByteArray) (O : Int) (H : Nat) (e : En) : Bool := decide (e.H = H ∧ e.K = K ∧ e.N = N ∧ e.S = S ∧ e.O = O)
/-- The rest of a chain from the entry of a key on. -/
def seek (K N : Int) (S : ByteArray) (O : Int) (H : Nat) : List En → List En
  | [] => []
  | e :: l => if isE K N S O H e then e :: l else seek K N S O H l

theorem toList_loop0 (s : ByteArray) : ∀ (n i : Nat) (r : List UInt8), s.size - i = n → ByteArray.toList.loop s i r = r.reverse ++ s.data.toList.drop i := by
  intro n
  induction n with
  | zero =>
    intro i r h
    unfold ByteArray.toList.loop
    rw [if_neg (by omega), List.drop_eq_nil_of_le (by simp only [Array.length_toList]; exact Nat.le_of_sub_eq_zero h), List.append_nil]
  | succ n ih =>
    intro i r h
    unfold ByteArray.toList.loop
    have hi : i < s.data.toList.length := by simp only [Array.length_toList]; exact Nat.lt_of_sub_eq_succ h
    rw [if_pos (by omega), ih (i + 1) _ (by omega), List.reverse_cons, List.append_assoc, List.drop_eq_getElem_cons hi]
    congr 1
    have : s.get! i = s.data.toList[i] := by
      simp only [ByteArray.get!, Array.getElem_toList]
      exact getElem!_pos s.data i (by simpa using hi)
    rw [this]; rfl
theorem toList_data0 (s : ByteArray) : s.toList = s.data.toList := by
  unfold ByteArray.toList
  rw [toList_loop0 s _ 0 [] rfl]; rfl
theorem text_inj0 {s t : ByteArray} (h : s.toList = t.toList) : s = t := by
  rw [toList_data0, toList_data0] at h
  cases s; cases t; congr 1; exact Array.toList_inj.1 h

set_option maxHeartbeats 4000000 in
theorem find_any (tb g n cap H : Nat) (K N : Int) (S : ByteArray) (O : Int) (ks : Nat) (l : List En) (w : World) (htb : tb < w.heap.size) (hk : w.cell? ⟨tb, 4, none⟩ = some (.int .i64 (ks : Int)))
    (hc : 0 < ks → w.cell? ⟨tb, 7, none⟩ = some (.slice (some ⟨g, 0, none⟩) n cap) ∧ 0 < n ∧ n ≤ 1099511627776 ∧ w.cell? ⟨g, bk H n, none⟩ = some (hd l) ∧ Lk w 9 l ∧ (∀ e ∈ l, EnC w e ∧ e.b < w.heap.size) ∧ g < w.heap.size)
    (h0 : ks = 0 → l = []) (hH : H < 18446744073709551616) :
    Calls Tryz.prog 24 #[.pointer (some ⟨tb, 0, none⟩), .agg #[.int .i64 K, .int .u64 N, .string S, .int .i64 O], .int .u64 (H : Int)] w fun e w' => e = .returned (hd (seek K N S O H l)) ∧ Below w.heap.size w w' := by
  have HB : Hid (Below w.heap.size w (w.alloc (.cells #[.int .i64 K, .int .u64 N, .string S, .int .i64 O] 37))) := (Below.refl _ _).alloc (Nat.le_refl _) _
  by_cases k0 : ks = 0
  · have := h0 k0
    subst this k0
    clear hc h0
    show Calls _ _ _ _ fun e w' => e = .returned (.pointer none) ∧ _
    go_enter Tryz.func24, Tryz.ntmps24
    go_wp2
    go_step3
    go_wp2
    try rw [Exit.noGoto_ret]
    go_ret
    exact ⟨rfl, HB.out⟩
  · obtain ⟨c7, n0, n1, cb, lk, en, hg⟩ := hc (by omega)
    clear hc h0
    have k1 : ¬ (ks : Int) = 0 := by omega
    have HBK : Hid (∀ w', w'.cell? ⟨tb, 7, none⟩ = some (.slice (some ⟨g, 0, none⟩) n cap) → Calls Tryz.prog 60 #[.pointer (some ⟨tb, 0, none⟩), .int .u64 (H : Int)] w' fun e w'' => e = .returned (.pointer (some ⟨g, bk H n, none⟩)) ∧ w'' = w'.drew) := fun w' h => bucket_any tb g n cap H w' h n0 n1 hH
    generalize bk H n = j at *
    have HC7 : Hid (w.cell? ⟨tb, 7, none⟩ = some (.slice (some ⟨g, 0, none⟩) n cap)) := c7
    have HLK : Hid (Lk w 9 l ∧ ∀ e ∈ l, EnC w e ∧ e.b < w.heap.size) := ⟨lk, en⟩
    have HN : Hid (0 < n ∧ n ≤ 1099511627776 ∧ ¬ ks = 0) := ⟨n0, n1, k0⟩
    clear c7 lk en n0 n1 k0
    go_enter Tryz.func24, Tryz.ntmps24
    go_wp2
    go_step3
    go_wp2_with fail
    refine (HBK.out _ ((HB.out.cell htb).trans HC7.out)).mono ?_
    rintro e w1 ⟨rfl, rfl⟩
    clear HBK HC7 HN hk k1 hH
    go_wp2
    go_step3
    go_wp2
    go_loopg [7] l.length (fun k p wr => ∃ r : List En, p = hd r ∧ Hid (k = r.length ∧ seek K N S O H l = seek K N S O H r ∧ Lk w 9 r ∧ (∀ e ∈ r, EnC w e ∧ e.b < w.heap.size) ∧ Below w.heap.size w wr) ∧
      wr.cell? ⟨w.heap.size, 0, none⟩ = some (.int .i64 K) ∧ wr.cell? ⟨w.heap.size, 1, none⟩ = some (.int .u64 N) ∧ wr.cell? ⟨w.heap.size, 2, none⟩ = some (.string S) ∧ wr.cell? ⟨w.heap.size, 3, none⟩ = some (.int .i64 O))
    case atStart => exact ⟨l, rfl, ⟨rfl, rfl, HLK.out.1, HLK.out.2, HB.out.drew⟩, by go_simp, by go_simp, by go_simp, by go_simp⟩
    case round =>
      obtain ⟨r, rfl, HI, b0, b1, b2, b3⟩ := hrel
      clear HB HLK cb
      rcases r with _ | ⟨e, r⟩
      · rw [hd]
        go_wp2
        try rw [Exit.noGoto_ret]
        go_ret
        refine ⟨?_, HI.out.2.2.2.2⟩
        rw [HI.out.2.1]; rfl
      · rw [hd]
        obtain ⟨hgk, hsk, ⟨hl, hlr⟩, hen, hbel⟩ := HI.out
        obtain ⟨⟨e0, e1, e2, e3, _, _, _, _, e8⟩, elt⟩ := hen e List.mem_cons_self
        rw [← hbel.cell elt] at e0 e1 e2 e3 e8 hl
        have HNX : Hid (∀ wr', Below w.heap.size w wr' → isE K N S O H e = false → r.length < gk ∧ (seek K N S O H l = seek K N S O H r ∧ Lk w 9 r ∧ (∀ e ∈ r, EnC w e ∧ e.b < w.heap.size) ∧ Below w.heap.size w wr')) := by
          intro wr' hb' hf
          refine ⟨by simp at hgk; omega, ?_, hlr, fun x hx => hen x (List.mem_cons_of_mem _ hx), hb'⟩
          rw [hsk, seek, if_neg (by rw [hf]; decide)]
        have HBL : Hid (Below w.heap.size w wr) := hbel
        have HFD : Hid (isE K N S O H e = true → hd (seek K N S O H l) = .pointer (some ⟨e.b, 0, none⟩)) := by
          intro h; rw [hsk, seek, if_pos h]; rfl
        clear HI hgk hsk hlr hen hbel
        obtain ⟨u, hu⟩ : ∃ u, hd r = .pointer u := by cases r <;> exact ⟨_, rfl⟩
        have HU : Hid (hd r = .pointer u) := hu
        rw [hu] at hl
        clear hu
        by_cases hh : e.H = H
        · by_cases hq : e.K = K ∧ e.N = N ∧ e.S = S ∧ e.O = O
          · have HT : Hid (isE K N S O H e = true) := by show isE K N S O H e = true; unfold isE; exact decide_eq_true ⟨hh, hq⟩
            obtain ⟨q0, q1, q2, q3⟩ := hq
            rw [hh] at e8; rw [q0] at e0; rw [q1] at e1; rw [q2] at e2; rw [q3] at e3
            generalize e.b = eb at *
            clear hh q0 q1 q2 q3
            go_wp2_with fail
            go_region
            go_wp2
            try rw [Exit.noGoto_ret]
            go_ret
            exact ⟨by rw [HFD.out HT.out]; rfl, HBL.out.drew⟩
          · have HT : Hid (isE K N S O H e = false) := by show isE K N S O H e = false; unfold isE; exact decide_eq_false (fun h => hq h.2)
            have hq4 : ¬ e.K = K ∨ (e.K = K ∧ ¬ e.N = N) ∨ (e.K = K ∧ e.N = N ∧ ¬ e.S.toList = S.toList) ∨ (e.K = K ∧ e.N = N ∧ e.S = S ∧ ¬ e.O = O) := by
              by_cases a : e.K = K
              · by_cases b : e.N = N
                · by_cases c : e.S = S
                  · exact .inr (.inr (.inr ⟨a, b, c, fun d => hq ⟨a, b, c, d⟩⟩))
                  · exact .inr (.inr (.inl ⟨a, b, fun d => c (text_inj0 d)⟩))
                · exact .inr (.inl ⟨a, b⟩)
              · exact .inl a
            rw [hh] at e8
            generalize e.K = eK at *
            generalize e.N = eN at *
            generalize e.S = eS at *
            generalize e.O = eO at *
            generalize e.b = eb at *
            clear hh hq
            rcases hq4 with q | ⟨rfl, q⟩ | ⟨rfl, rfl, q⟩ | ⟨rfl, rfl, rfl, q⟩
            all_goals
              go_wp2_with fail
              go_region
              go_wp2_with fail
              go_roundg r.length
              case measure => exact (HNX.out _ HBL.out HT.out).1
              case rel => exact ⟨r, HU.out.symm, ⟨rfl, (HNX.out _ HBL.out.drew HT.out).2⟩, b0, b1, b2, b3⟩
        · have hh' : ¬ (e.H : Int) = (H : Int) := by omega
          have HT : Hid (isE K N S O H e = false) := by show isE K N S O H e = false; unfold isE; exact decide_eq_false (fun h => hh h.1)
          clear hh
          go_wp2_with fail
          go_roundg r.length
          case measure => exact (HNX.out _ HBL.out HT.out).1
          case rel => exact ⟨r, HU.out.symm, ⟨rfl, (HNX.out _ HBL.out HT.out).2⟩, b0, b1, b2, b3⟩
end Go.Proofs.YthmocdabakkfhaaGreatDoor

/-
  Layer 9: what a table has under a key; the numbers of objects.
-/
namespace Go.Proofs.YthmocdabakkfhaaGreatDoor
set_option maxRecDepth 100000
open Go.RowKit

/-- A value in four cells. -/
def vl4 (K N : Int) (S : ByteArray) (O : Int) : Value := .agg #[.int .i64 K, .int .u64 N, .string S, .int .i64 O]
/-- The value of the first of a list of entries, Nil of none. -/
def valOf : List En → Value
  | [] => vl4 0 0 ⟨#[]⟩ 0
  | e :: _ => vl4 e.vK e.vN e.vS e.vO

/-- A table's keys are n; the chain of the hash H is l. -/
def Ch (w : World) (tb ks g n cap H : Nat) (l : List En) : Prop :=
  tb < w.heap.size ∧ w.cell? ⟨tb, 4, none⟩ = some (.int .i64 (ks : Int)) ∧
  (0 < ks → w.cell? ⟨tb, 7, none⟩ = some (.slice (some ⟨g, 0, none⟩) n cap) ∧ 0 < n ∧ n ≤ 1099511627776 ∧ w.cell? ⟨g, bk H n, none⟩ = some (hd l) ∧ Lk w 9 l ∧ (∀ e ∈ l, EnC w e ∧ e.b < w.heap.size) ∧ g < w.heap.size) ∧
  (ks = 0 → l = []) ∧ H < 18446744073709551616
theorem EnC.below {w w' : World} {B : Nat} {e : En} (h : EnC w e) (hb : Below B w w') (hl : e.b < B) : EnC w' e := by
  obtain ⟨h0, h1, h2, h3, h4, h5, h6, h7, h8⟩ := h
  exact ⟨(hb.cell hl).trans h0, (hb.cell hl).trans h1, (hb.cell hl).trans h2, (hb.cell hl).trans h3, (hb.cell hl).trans h4, (hb.cell hl).trans h5, (hb.cell hl).trans h6, (hb.cell hl).trans h7, (hb.cell hl).trans h8⟩
theorem Lk.below {w w' : World} {B o : Nat} (hb : Below B w w') : ∀ {l : List En}, Lk w o l → (∀ e ∈ l, e.b < B) → Lk w' o l
  | [], _, _ => trivial
  | e :: _, h, hl => ⟨(hb.cell (hl e List.mem_cons_self)).trans h.1, Lk.below hb h.2 fun x hx => hl x (List.mem_cons_of_mem _ hx)⟩
theorem Ch.below {w w' : World} {tb ks g n cap H : Nat} {l : List En} (h : Ch w tb ks g n cap H l) (hb : Below w.heap.size w w') : Ch w' tb ks g n cap H l := by
  obtain ⟨h0, h1, h2, h3, h4⟩ := h
  have hs := hb.size
  refine ⟨by omega, (hb.cell h0).trans h1, fun k => ?_, h3, h4⟩
  obtain ⟨a, b, c, d, e, f, g⟩ := h2 k
  exact ⟨(hb.cell h0).trans a, b, c, (hb.cell g).trans d, e.below hb fun x hx => (f x hx).2, fun x hx => ⟨(f x hx).1.below hb (f x hx).2, by have := (f x hx).2; omega⟩, by omega⟩
theorem find_ch {tb ks g n cap H : Nat} {l : List En} (K N : Int) (S : ByteArray) (O : Int) {w : World} (h : Ch w tb ks g n cap H l) :
    Calls Tryz.prog 24 #[.pointer (some ⟨tb, 0, none⟩), .agg #[.int .i64 K, .int .u64 N, .string S, .int .i64 O], .int .u64 (H : Int)] w fun e w' => e = .returned (hd (seek K N S O H l)) ∧ Below w.heap.size w w' :=
  find_any tb g n cap H K N S O ks l w h.1 h.2.1 h.2.2.1 h.2.2.2.1 h.2.2.2.2
theorem seek_sub {K N : Int} {S : ByteArray} {O : Int} {H : Nat} : ∀ {l : List En} {e : En}, e ∈ seek K N S O H l → e ∈ l
  | [], _, h => h
  | x :: l, e, h => by
    rw [seek] at h
    split at h
    · exact h
    · exact List.mem_cons_of_mem _ (seek_sub h)

theorem set40 {B b i0 i1 i2 i3 : Nat} {W w1 : World} (h : Below B W w1) (hb : B ≤ b) (v0 v1 v2 v3 : Value) :
    Below B W ((((w1.setCell ⟨b, i0, none⟩ v0).setCell ⟨b, i1, none⟩ v1).setCell ⟨b, i2, none⟩ v2).setCell ⟨b, i3, none⟩ v3) :=
  (((h.setCell (p := ⟨b, i0, none⟩) hb _).setCell (p := ⟨b, i1, none⟩) hb _).setCell (p := ⟨b, i2, none⟩) hb _).setCell (p := ⟨b, i3, none⟩) hb _

set_option maxHeartbeats 2000000 in
theorem get_any (tb ks g n cap H : Nat) (l : List En) (K N : Int) (S : ByteArray) (O : Int) (w : World) (h : Ch w tb ks g n cap H l) :
    Calls Tryz.prog 26 #[.pointer (some ⟨tb, 0, none⟩), .agg #[.int .i64 K, .int .u64 N, .string S, .int .i64 O], .int .u64 (H : Int)] w fun e w' => e = .returned (valOf (seek K N S O H l)) ∧ Below w.heap.size w w' := by
  have hb0 : Below w.heap.size w ((w.alloc (.cells #[.int .i64 K, .int .u64 N, .string S, .int .i64 O] 37)).alloc (.cells #[.int .i64 0, .int .u64 0, .string ⟨#[]⟩, .int .i64 0] 37)) := ((Below.refl _ _).alloc (Nat.le_refl _) _).alloc (by simp) _
  have HF := find_ch K N S O (h.below hb0)
  have HE : Hid (∀ e ∈ seek K N S O H l, EnC w e ∧ e.b < w.heap.size) := by
    intro e he
    by_cases k0 : ks = 0
    · rw [h.2.2.2.1 k0] at he; exact absurd he (by simp [seek])
    · exact (h.2.2.1 (by omega)).2.2.2.2.2.1 e (seek_sub he)
  generalize seek K N S O H l = r at *
  have HB : Hid (Below w.heap.size w ((w.alloc (.cells #[.int .i64 K, .int .u64 N, .string S, .int .i64 O] 37)).alloc (.cells #[.int .i64 0, .int .u64 0, .string ⟨#[]⟩, .int .i64 0] 37))) := hb0
  clear h hb0
  go_enter Tryz.func26, Tryz.ntmps26
  go_wp2_with fail
  refine HF.mono ?_
  rintro e w1 ⟨rfl, hb1⟩
  have hc : ∀ o, w1.cell? ⟨w.heap.size + 1, o, none⟩ = ((w.alloc (.cells #[.int .i64 K, .int .u64 N, .string S, .int .i64 O] 37)).alloc (.cells #[.int .i64 0, .int .u64 0, .string ⟨#[]⟩, .int .i64 0] 37)).cell? ⟨w.heap.size + 1, o, none⟩ := fun o => hb1.cell (by simp)
  have z0 : w1.cell? ⟨w.heap.size + 1, 0, none⟩ = some (.int .i64 0) := by rw [hc]; go_simp
  have z1 : w1.cell? ⟨w.heap.size + 1, 1, none⟩ = some (.int .u64 0) := by rw [hc]; go_simp
  have z2 : w1.cell? ⟨w.heap.size + 1, 2, none⟩ = some (.string ⟨#[]⟩) := by rw [hc]; go_simp
  have z3 : w1.cell? ⟨w.heap.size + 1, 3, none⟩ = some (.int .i64 0) := by rw [hc]; go_simp
  have hf : ∀ o, w1.frozen? ⟨w.heap.size + 1, o, none⟩ = false := fun o => (hb1.frozen (by simp)).trans (by go_simp)
  have HB1 : Hid (Below w.heap.size w w1) := HB.out.trans (hb1.mono (by simp; omega))
  clear HF hb1 hc HB
  rcases r with _ | ⟨e, r⟩
  · rw [hd]
    clear HE
    go_wp2
    exact bodyPost_ret (v := valOf []) (by simp [results, Tryz.results26, go_sem, valOf, vl4, z0, z1, z2, z3]) rfl ⟨rfl, set40 HB1.out (by omega) _ _ _ _⟩
  · rw [hd]
    obtain ⟨ec, el⟩ := HE.out e List.mem_cons_self
    obtain ⟨_, _, _, _, e4, e5, e6, e7, _⟩ := ec.below HB1.out el
    clear HE ec
    go_wp2
    exact bodyPost_ret (v := valOf (e :: r)) (by simp [results, Tryz.results26, go_sem, valOf, vl4, z0, z1, z2, z3]) rfl ⟨rfl, set40 HB1.out (by omega) _ _ _ _⟩
end Go.Proofs.YthmocdabakkfhaaGreatDoor

/-
  Layer 9: which of the keys 1, 2, 3, .. a key is: bit.
-/
namespace Go.Proofs.YthmocdabakkfhaaGreatDoor
set_option maxRecDepth 100000
open Go.RowKit Dg Flo

/-- Whether a key has a bit among m words, and which. -/
def bitB (m : Nat) (K N : Int) : Bool := decide (K = 3 ∧ toB N = true ∧ 1 ≤ toI N ∧ toI N ≤ (m : Int) * 64)
def bitN (m : Nat) (K N : Int) : Nat := if bitB m K N then (toI N - 1).toNat else 0

set_option maxHeartbeats 2000000 in
theorem hbit_any (tb m cap : Nat) (a : Option Addr) (K N : Int) (S : ByteArray) (O : Int) (w : World) (hN : U64 N) (htb : tb < w.heap.size) (hc : w.cell? ⟨tb, 8, none⟩ = some (.slice a m cap)) (hm : m ≤ 1099511627776) :
    Calls Tryz.prog 88 #[.pointer (some ⟨tb, 0, none⟩), .agg #[.int .i64 K, .int .u64 N, .string S, .int .i64 O]] w fun e w' => e = .returned (.tuple #[.int .i64 (bitN m K N : Nat), .bool (bitB m K N)]) ∧ Below w.heap.size w w' := by
  have HB : Hid (Below w.heap.size w (w.alloc (.cells #[.int .i64 K, .int .u64 N, .string S, .int .i64 O] 37))) := (Below.refl _ _).alloc (Nat.le_refl _) _
  have HT : Hid (∀ w, Calls Tryz.prog 94 #[.int .u64 N] w fun e w' => e = .returned (.tuple #[.int .i64 (toI N), .bool (toB N)]) ∧ Below w.heap.size w w') := fun w => toInt_any N w hN
  by_cases k3 : K = 3
  · subst k3
    have hcase : toB N = false ∨ (toB N = true ∧ toI N < 1) ∨ (toB N = true ∧ 1 ≤ toI N ∧ toI N > (m : Int) * 64) ∨ (toB N = true ∧ 1 ≤ toI N ∧ toI N ≤ (m : Int) * 64) := by
      cases toB N <;> simp <;> omega
    rcases hcase with c | ⟨c, d⟩ | ⟨c, d, d2⟩ | ⟨c, d, d2⟩
    · have b0 : bitB m 3 N = false := by unfold bitB; exact decide_eq_false (by rintro ⟨_, h, _⟩; rw [c] at h; cases h)
      have n0 : bitN m 3 N = 0 := by unfold bitN; rw [b0]; rfl
      rw [b0, n0]
      rw [c] at HT
      generalize toI N = z at *
      clear b0 n0 c
      go_enter Tryz.func88, Tryz.ntmps88
      go_wp2_with fail
      refine (HT.out _).mono ?_
      rintro e w1 ⟨rfl, hb⟩
      have HB1 : Hid (Below w.heap.size w w1) := HB.out.trans (hb.mono (by simp))
      have hc1 : w1.cell? ⟨tb, 8, none⟩ = some (.slice a m cap) := (HB1.out.cell htb).trans hc
      clear hb HB HT
      go_wp2
      go_ret2
      exact ⟨rfl, HB1.out⟩
    · have b0 : bitB m 3 N = false := by unfold bitB; exact decide_eq_false (by rintro ⟨_, _, h, _⟩; omega)
      have n0 : bitN m 3 N = 0 := by unfold bitN; rw [b0]; rfl
      rw [b0, n0]
      rw [c] at HT
      generalize toI N = z at *
      clear b0 n0 c
      go_enter Tryz.func88, Tryz.ntmps88
      go_wp2_with fail
      refine (HT.out _).mono ?_
      rintro e w1 ⟨rfl, hb⟩
      have HB1 : Hid (Below w.heap.size w w1) := HB.out.trans (hb.mono (by simp))
      have hc1 : w1.cell? ⟨tb, 8, none⟩ = some (.slice a m cap) := (HB1.out.cell htb).trans hc
      clear hb HB HT
      go_wp2
      go_ret2
      exact ⟨rfl, HB1.out⟩
    · have b0 : bitB m 3 N = false := by unfold bitB; exact decide_eq_false (by rintro ⟨_, _, _, h⟩; omega)
      have n0 : bitN m 3 N = 0 := by unfold bitN; rw [b0]; rfl
      rw [b0, n0]
      rw [c] at HT
      generalize toI N = z at *
      clear b0 n0 c
      have d3 : ¬ z < 1 := by omega
      go_enter Tryz.func88, Tryz.ntmps88
      go_wp2_with fail
      refine (HT.out _).mono ?_
      rintro e w1 ⟨rfl, hb⟩
      have HB1 : Hid (Below w.heap.size w w1) := HB.out.trans (hb.mono (by simp))
      have hc1 : w1.cell? ⟨tb, 8, none⟩ = some (.slice a m cap) := (HB1.out.cell htb).trans hc
      clear hb HB HT
      go_wp2
      go_ret2
      exact ⟨rfl, HB1.out⟩
    · have b0 : bitB m 3 N = true := by unfold bitB; exact decide_eq_true ⟨rfl, c, d, d2⟩
      have n0 : ((bitN m 3 N : Nat) : Int) = toI N - 1 := by unfold bitN; rw [b0]; simp; omega
      rw [b0, n0]
      rw [c] at HT
      generalize toI N = z at *
      clear b0 n0 c
      have d3 : ¬ z < 1 := by omega
      have d4 : ¬ z > (m : Int) * 64 := by omega
      go_enter Tryz.func88, Tryz.ntmps88
      go_wp2_with fail
      refine (HT.out _).mono ?_
      rintro e w1 ⟨rfl, hb⟩
      have HB1 : Hid (Below w.heap.size w w1) := HB.out.trans (hb.mono (by simp))
      have hc1 : w1.cell? ⟨tb, 8, none⟩ = some (.slice a m cap) := (HB1.out.cell htb).trans hc
      clear hb HB HT
      go_wp2
      go_ret2
      exact ⟨rfl, HB1.out⟩
  · have b0 : bitB m K N = false := by unfold bitB; exact decide_eq_false (by rintro ⟨h, _⟩; exact k3 h)
    have n0 : bitN m K N = 0 := by unfold bitN; rw [b0]; rfl
    rw [b0, n0]
    clear b0 n0 HT
    go_enter Tryz.func88, Tryz.ntmps88
    go_wp2
    go_ret2
    exact ⟨rfl, HB.out⟩
end Go.Proofs.YthmocdabakkfhaaGreatDoor

/-
  Layer 9: the first bit that is set: the library's TrailingZeros64.
-/
namespace Go.Proofs.YthmocdabakkfhaaGreatDoor
set_option maxRecDepth 100000
open Go.RowKit

/-- The library's table in its variable. -/
def Db (w : World) : Prop := ∀ j, j < 64 → w.cell? ⟨1, j, none⟩ = some (.int .u8 (Lib.deBruijn64tab.getD j 0 : Nat))

theorem ctz_key (x a : Nat) (hx : x < 18446744073709551616) (hx0 : x ≠ 0) (hlow : x &&& (18446744073709551616 - x) = a) :
    IntKind.u64.wrap (bits BinOp.and IntKind.u64 (x : Int) (IntKind.u64.wrap (-(x : Int))) * 285870213051353865) / 288230376151711744 = ((a * 285870213051353865 % 18446744073709551616 / 288230376151711744 : Nat) : Int) := by
  have e1 : IntKind.u64.wrap (-(x : Int)) = ((18446744073709551616 - x : Nat) : Int) := by rw [IntKind.wrap_u64]; omega
  rw [e1, bits_and_u64_nat x _ hx (by omega), hlow, IntKind.wrap_u64]
  omega

set_option maxHeartbeats 1000000 in
theorem ctz_core (x k idx : Nat) (w : World) (h0 : ((x : Int) == 0) = false)
    (key : IntKind.u64.wrap (bits BinOp.and IntKind.u64 (x : Int) (IntKind.u64.wrap (-(x : Int))) * 285870213051353865) / 288230376151711744 = (idx : Int))
    (hi : idx < 64) (hk : k < 64) (hcell : w.cell? ⟨1, idx, none⟩ = some (.int .u8 (k : Nat))) :
    Calls Tryz.prog 98 #[.int .u64 (x : Int)] w fun e w' => e = .returned (.int .i64 (k : Nat)) ∧ w' = w := by
  go_enter Tryz.func98, Tryz.ntmps98
  go_wp2_with (simp only [key])
  go_ret
  exact ⟨rfl, rfl⟩
set_option maxHeartbeats 1000000 in
theorem ctz_zero (w : World) : Calls Tryz.prog 98 #[.int .u64 0] w fun e w' => e = .returned (.int .i64 64) ∧ w' = w := by
  go_enter Tryz.func98, Tryz.ntmps98
  go_wp2
  go_ret
  exact ⟨rfl, rfl⟩
theorem ctz_any (x : Nat) (hx : x < 18446744073709551616) (w : World) (hT : Db w) :
    Calls Tryz.prog 98 #[.int .u64 (x : Int)] w fun e w' => e = .returned (.int .i64 (Lib.ctz 64 x : Nat)) ∧ w' = w := by
  by_cases hx0 : x = 0
  · subst hx0
    exact ctz_zero w
  · obtain ⟨hlow, hk⟩ := Lib.lowest_bit 64 x hx0 hx
    obtain ⟨hi, htab⟩ := Lib.deBruijn64_at _ hk
    have hcell := hT _ hi
    rw [htab] at hcell
    exact ctz_core x _ _ w (by simp; omega) (ctz_key x _ hx hx0 hlow) hi hk hcell
end Go.Proofs.YthmocdabakkfhaaGreatDoor

/-
  Layer 9: the first bit that is not set: gap.
-/
namespace Go.Proofs.YthmocdabakkfhaaGreatDoor
set_option maxRecDepth 100000
open Go.RowKit

/-- The first of the words p, p + 1, .. (f of them) that is not full. -/
def gapF (W : Nat → Nat) : Nat → Nat → Nat
  | 0, p => p
  | f + 1, p => if W p = 18446744073709551615 then gapF W f (p + 1) else p
theorem gapF_step (W : Nat → Nat) {m p : Nat} (h : p < m) (hw : W p = 18446744073709551615) : gapF W (m - p) p = gapF W (m - (p + 1)) (p + 1) := by
  rw [show m - p = (m - (p + 1)) + 1 from by omega, gapF, if_pos hw]
theorem gapF_stop (W : Nat → Nat) {m p : Nat} (h : p < m) (hw : ¬ W p = 18446744073709551615) : gapF W (m - p) p = p := by
  rw [show m - p = (m - (p + 1)) + 1 from by omega, gapF, if_neg hw]
theorem gapF_end (W : Nat → Nat) (m : Nat) : gapF W (m - m) m = m := by rw [Nat.sub_self]; rfl
/-- Which bit gap tells. -/
def gapN (W : Nat → Nat) (m s : Nat) : Nat := let p := gapF W (m - s / 64) (s / 64)
  if p = m then m * 64 else p * 64 + Lib.ctz 64 (18446744073709551615 - W p)
theorem gapN_end {W : Nat → Nat} {m s : Nat} (h : gapF W (m - s / 64) (s / 64) = m) : gapN W m s = m * 64 := by unfold gapN; simp only [h, if_pos]
theorem gapN_at {W : Nat → Nat} {m s p : Nat} (h : gapF W (m - s / 64) (s / 64) = p) (hp : p ≠ m) : gapN W m s = p * 64 + Lib.ctz 64 (18446744073709551615 - W p) := by unfold gapN; simp only [h, if_neg hp]

theorem not_u64 (x : Nat) (hx : x < 18446744073709551616) : bits .xor .u64 IntKind.u64.max (x : Int) = ((18446744073709551615 - x : Nat) : Int) := by
  rw [show IntKind.u64.max = ((18446744073709551615 : Nat) : Int) from by decide, bits_xor_u64_nat _ x (by decide) hx]
  congr 1
  have h := BitVec.toNat_not (x := BitVec.ofNat 64 x)
  rw [BitVec.not_def, BitVec.toNat_xor, BitVec.toNat_allOnes, BitVec.toNat_ofNat, Nat.mod_eq_of_lt (by omega)] at h
  exact h

set_option maxHeartbeats 2000000 in
theorem gap_any (tb c m s : Nat) (W : Nat → Nat) (w : World) (h8 : w.cell? ⟨tb, 8, none⟩ = some (.slice (some ⟨c, 0, none⟩) m m)) (h9 : w.cell? ⟨tb, 9, none⟩ = some (.int .i64 (s : Int))) (hm : m ≤ 1099511627776) (hs : s ≤ m * 64)
    (hW : ∀ i, i < m → W i < 18446744073709551616 ∧ w.cell? ⟨c, i, none⟩ = some (.int .u64 (W i : Int))) (hT : Db w) :
    Calls Tryz.prog 95 #[.pointer (some ⟨tb, 0, none⟩)] w fun e w' => e = .returned (.int .i64 (gapN W m s : Nat)) ∧ w' = w := by
  have HW : Hid (∀ i, i < m → W i < 18446744073709551616 ∧ w.cell? ⟨c, i, none⟩ = some (.int .u64 (W i : Int))) := hW
  have HC : Hid (∀ x : Nat, x < 18446744073709551616 → Calls Tryz.prog 98 #[.int .u64 (x : Int)] w fun e w' => e = .returned (.int .i64 (Lib.ctz 64 x : Nat)) ∧ w' = w) := fun x hx => ctz_any x hx w hT
  clear hW hT
  go_enter Tryz.func95, Tryz.ntmps95
  go_wp2_with fail
  go_loop [3] (fun t3 => ∃ p : Nat, p ≤ m ∧ t3 = .int .i64 (p : Int) ∧ Hid (gapF W (m - p) p = gapF W (m - s / 64) (s / 64))) (fun t3 => m - (intOf t3).toNat)
  case atStart => exact ⟨s / 64, by omega, by simp, rfl⟩
  case round =>
    obtain ⟨p, hp, rfl, HI⟩ := hrel
    by_cases hpm : p < m
    · obtain ⟨w1, w2⟩ := HW.out p hpm
      by_cases hf : W p = 18446744073709551615
      · have HS : Hid (gapF W (m - p) p = gapF W (m - (p + 1)) (p + 1)) := gapF_step W hpm hf
        rw [hf] at w2
        go_wp2_with fail
        exact ⟨⟨p + 1, by omega, rfl, HS.out.symm.trans HI.out⟩, by simp [intOf]; omega⟩
      · have hf' : ¬ (W p : Int) = 18446744073709551615 := by omega
        have HS : Hid (gapN W m s = p * 64 + Lib.ctz 64 (18446744073709551615 - W p)) := gapN_at (HI.out.symm.trans (gapF_stop W hpm hf)) (by omega)
        go_wp2_with fail
        rw [not_u64 _ w1]
        have hl : Lib.ctz 64 (18446744073709551615 - W p) < 64 := (Lib.lowest_bit 64 (18446744073709551615 - W p) (by omega) (by omega)).2
        refine (HC.out _ (by omega)).mono ?_
        rintro e w' ⟨rfl, rfl⟩
        generalize Lib.ctz 64 (18446744073709551615 - W p) = z at *
        clear w2 hf hf'
        go_wp2_with fail
        go_ret
        exact ⟨by rw [HS.out]; simp, rfl⟩
    · have hpe : p = m := by omega
      subst hpe
      have HS : Hid (gapN W p s = p * 64) := gapN_end (HI.out.symm.trans (gapF_end W p))
      go_wp2_with fail
      go_ret
      exact ⟨by rw [HS.out]; simp, rfl⟩
end Go.Proofs.YthmocdabakkfhaaGreatDoor

/-
  Layer 9: a table in memory: its entries in their order, its buckets, and what a search finds in it.
-/
namespace Go.Proofs.YthmocdabakkfhaaGreatDoor
set_option maxRecDepth 100000
open Go.RowKit

/-- The key of an entry. -/
def En.key (e : En) : Int × Int × ByteArray × Int := (e.K, e.N, e.S, e.O)
/-- The hash of a key, as a natural number. -/
def hN (K N : Int) (S : ByteArray) (O : Int) : Nat := (hZ K N S O).toNat
theorem hN_lt (K N : Int) (S : ByteArray) (O : Int) : hN K N S O < 18446744073709551616 := by
  have := mixZ_in (hw S (mixZ (mixZ (mixZ (mixZ 0 (IntKind.u64.wrap K)) N) (IntKind.u64.wrap O)) (S.size : Nat)) S.size).1 (hw S (mixZ (mixZ (mixZ (mixZ 0 (IntKind.u64.wrap K)) N) (IntKind.u64.wrap O)) (S.size : Nat)) S.size).2
  unfold hN hZ
  simp only
  omega
theorem hN_eq (K N : Int) (S : ByteArray) (O : Int) : ((hN K N S O : Nat) : Int) = hZ K N S O := by
  have := mixZ_in (hw S (mixZ (mixZ (mixZ (mixZ 0 (IntKind.u64.wrap K)) N) (IntKind.u64.wrap O)) (S.size : Nat)) S.size).1 (hw S (mixZ (mixZ (mixZ (mixZ 0 (IntKind.u64.wrap K)) N) (IntKind.u64.wrap O)) (S.size : Nat)) S.size).2
  unfold hN hZ
  simp only
  omega

/-- What a search tells: nothing is there of the key, or the first that is. -/
theorem seek_cases (K N : Int) (S : ByteArray) (O : Int) (H : Nat) : ∀ l : List En, (seek K N S O H l = [] ∧ ∀ e ∈ l, isE K N S O H e = false) ∨ ∃ e r, seek K N S O H l = e :: r ∧ e ∈ l ∧ isE K N S O H e = true
  | [] => .inl ⟨rfl, fun e h => absurd h (by simp)⟩
  | x :: l => by
    by_cases c : isE K N S O H x = true
    · exact .inr ⟨x, l, by rw [seek, if_pos c], List.mem_cons_self, c⟩
    · rcases seek_cases K N S O H l with ⟨a, b⟩ | ⟨e, r, a, b, d⟩
      · refine .inl ⟨by rw [seek, if_neg c, a], fun e he => ?_⟩
        rcases List.mem_cons.1 he with rfl | he
        · simpa using c
        · exact b e he
      · exact .inr ⟨e, r, by rw [seek, if_neg c, a], List.mem_cons_of_mem _ b, d⟩

/-- The entry of a key in a table's list. -/
def ofKey (K N : Int) (S : ByteArray) (O : Int) (es : List En) : Option En := es.find? fun e => decide (e.K = K ∧ e.N = N ∧ e.S = S ∧ e.O = O)

/-- The entries es, each with its own key and its key's hash, lie in the n buckets of the block g by the chains cs. -/
structure Bk (w : World) (g n : Nat) (cs : Nat → List En) (es : List En) : Prop where
  pos : 0 < n
  few : n ≤ 1099511627776
  lt : g < w.heap.size
  head : ∀ j, j < n → w.cell? ⟨g, j, none⟩ = some (hd (cs j))
  chain : ∀ j, j < n → Lk w 9 (cs j)
  mem : ∀ j, j < n → ∀ e, e ∈ cs j ↔ e ∈ es ∧ bk e.H n = j
  lies : ∀ e ∈ es, EnC w e ∧ e.b < w.heap.size
  hash : ∀ e ∈ es, e.H = hN e.K e.N e.S e.O
  own : ∀ e ∈ es, ∀ f ∈ es, e.K = f.K → e.N = f.N → e.S = f.S → e.O = f.O → e = f
  once : ∀ j, j < n → (cs j).Nodup
  block : ∀ e ∈ es, ∀ f ∈ es, e.b = f.b → e = f
  apart : ∀ e ∈ es, e.b ≠ g

theorem Bk.seek {w : World} {g n : Nat} {cs : Nat → List En} {es : List En} (h : Bk w g n cs es) (K N : Int) (S : ByteArray) (O : Int) :
    (ofKey K N S O es = none ∧ seek K N S O (hN K N S O) (cs (bk (hN K N S O) n)) = []) ∨ ∃ e r, ofKey K N S O es = some e ∧ e ∈ es ∧ seek K N S O (hN K N S O) (cs (bk (hN K N S O) n)) = e :: r := by
  have hj := bk_lt (hN K N S O) h.pos
  rcases seek_cases K N S O (hN K N S O) (cs (bk (hN K N S O) n)) with ⟨a, b⟩ | ⟨e, r, a, b, c⟩
  · refine .inl ⟨?_, a⟩
    refine List.find?_eq_none.2 fun e he => ?_
    intro c
    have c := of_decide_eq_true c
    have hh := h.hash e he
    rw [c.1, c.2.1, c.2.2.1, c.2.2.2] at hh
    have := b e ((h.mem _ hj e).2 ⟨he, by rw [hh]⟩)
    unfold isE at this
    exact of_decide_eq_false this ⟨hh, c⟩
  · refine .inr ⟨e, r, ?_, ((h.mem _ hj e).1 b).1, a⟩
    have he := ((h.mem _ hj e).1 b).1
    unfold isE at c
    have c := of_decide_eq_true c
    cases hf : ofKey K N S O es with
    | none =>
      have := List.find?_eq_none.1 hf e he
      exact absurd (decide_eq_true c.2) this
    | some f =>
      have f1 := List.find?_some hf
      have f2 := List.mem_of_find?_eq_some hf
      have f1 := of_decide_eq_true f1
      rw [h.own e he f f2 (c.2.1.trans f1.1.symm) (c.2.2.1.trans f1.2.1.symm) (c.2.2.2.1.trans f1.2.2.1.symm) (c.2.2.2.2.trans f1.2.2.2.symm)]
end Go.Proofs.YthmocdabakkfhaaGreatDoor
