/-
  Layer 15: Rep, Char, Join of both sides, walked.
-/
import Derived.Test.YtflbolbhdiloeaaTtLess
import Derived.Lib.Repeat
namespace Go.Proofs.Ytflbolbhdiloeaa
set_option maxRecDepth 100000
open Go.RowKit Txt Tt

/-- Rep: what is made, and the error. -/
def repT (l : List UInt8) (n : Int) : List UInt8 := if 16384 < n * l.length then [] else Lib.repeatL l n.toNat
def repE (l : List UInt8) (n : Int) : Int := if 16384 < n * l.length then 2 else 0
theorem div_mul (n k : Int) (hn : 1 ≤ n) : k > 16384 / n ↔ 16384 < n * k := by
  constructor
  · intro h
    have := (Int.ediv_lt_iff_lt_mul (by omega : 0 < n)).1 h
    rw [Int.mul_comm]; exact this
  · intro h
    rw [Int.mul_comm] at h
    exact (Int.ediv_lt_iff_lt_mul (by omega : 0 < n)).2 h
theorem rep_none {l : List UInt8} {n : Int} (h : l = [] ∨ n < 1) : repT l n = [] ∧ repE l n = 0 := by
  unfold repT repE
  rcases h with rfl | h
  · simp [Lib.repeatL_nil]
  · have h2 : n * (l.length : Int) ≤ 0 := Int.mul_nonpos_of_nonpos_of_nonneg (by omega) (by omega)
    rw [if_neg (by omega), if_neg (by omega), show n.toNat = 0 by omega]
    exact ⟨rfl, rfl⟩

set_option maxHeartbeats 1000000 in
theorem rep_any (l : List UInt8) (n : Int) (w : World) (hl : l.length ≤ 140737488351232) (h0 : -9223372036854775808 ≤ n) (h1 : n ≤ 9223372036854775807) :
    Calls Try.prog 26 #[.string (bs l), .int .i64 n] w fun e w' => e = .returned (.tuple #[.string (bs (repT l n)), .int .i64 (repE l n)]) ∧ Below w.heap.size w w' := by
  have hsz := bs_size l
  have hE : (bs l).toList.isEmpty = decide (l = []) := by
    rw [bs_toList]
    cases l with
    | nil => rfl
    | cons a r => rw [decide_eq_false (by simp)]; rfl
  by_cases c0 : l = []
  · obtain ⟨e1, e2⟩ := rep_none (n := n) (.inl c0)
    rw [e1, e2]
    rw [decide_eq_true c0] at hE
    clear c0 e1 e2
    generalize bs l = L at *
    go_enter Try.func26, Try.ntmps26
    go_wp2
    go_ret2
    exact ⟨rfl, Below.refl _ _⟩
  · rw [decide_eq_false c0] at hE
    by_cases c1 : n < 1
    · obtain ⟨e1, e2⟩ := rep_none (l := l) (.inr c1)
      rw [e1, e2]
      generalize bs l = L at *
      go_enter Try.func26, Try.ntmps26
      go_wp2
      go_ret2
      exact ⟨rfl, Below.refl _ _⟩
    · have hdm := div_mul n l.length (by omega)
      by_cases c2 : (l.length : Int) > 16384 / n
      · have hb := hdm.1 c2
        unfold repT repE
        rw [if_pos hb, if_pos hb]
        clear hdm hb
        generalize bs l = L at *
        go_enter Try.func26, Try.ntmps26
        go_wp2
        go_ret2
        exact ⟨rfl, Below.refl _ _⟩
      · have hb : ¬ 16384 < n * l.length := fun h => c2 (hdm.2 h)
        unfold repT repE
        rw [if_neg hb, if_neg hb]
        have hmul : l.length * n.toNat ≤ 140737488355328 := by
          have : ((l.length * n.toNat : Nat) : Int) = n * l.length := by
            rw [Int.natCast_mul, Int.toNat_of_nonneg (by omega), Int.mul_comm]
          omega
        have hr := fun w => Try.strings_Repeat (bs l) n.toNat w (by omega) (by rw [hsz]; exact hmul)
        rw [bs_list, Int.toNat_of_nonneg (by omega)] at hr
        have hr2 : ∀ w, Calls Try.prog 33 #[.string (bs l), .int .i64 n] w fun e w' => e = .returned (.string (bs (Lib.repeatL l n.toNat))) ∧ Below w.heap.size w w' := hr
        clear hdm hmul hr hb
        generalize bs (Lib.repeatL l n.toNat) = R at *
        generalize bs l = L at *
        go_enter Try.func26, Try.ntmps26
        go_wp2_with fail
        refine (hr2 _).mono ?_
        rintro e w1 ⟨rfl, hb1⟩
        go_wp2
        go_ret2
        exact ⟨rfl, hb1⟩

theorem b8_append (l m : List UInt8) : b8 (l ++ m) = b8 l ++ b8 m := by unfold b8; simp
theorem b8_str (l : List UInt8) : Lib.strCells (bs l) = b8 l := by unfold Lib.strCells b8; rw [bs_list]
theorem rep_snoc (l : List UInt8) (i : Nat) : Lib.repeatL l (i + 1) = Lib.repeatL l i ++ l := by rw [Lib.repeatL_add, Lib.repeatL_one]
theorem rep_len (l : List UInt8) (i : Nat) : ((Lib.repeatL l i).length : Int) = i * l.length := by rw [Lib.repeatL_length, Int.natCast_mul]

set_option maxHeartbeats 2000000 in
theorem rrep_any (l : List UInt8) (n : Int) (w : World) (hl : l.length ≤ 140737488351232) (h1 : n ≤ 9223372036854775807) :
    Calls Try.prog 27 #[.string (bs l), .int .i64 n] w fun e w' => e = .returned (.tuple #[.string (bs (repT l n)), .int .i64 (repE l n)]) ∧ Below w.heap.size w w' := by
  obtain ⟨i0, hi, hz0, hz1, hz2⟩ := info_parts info8x
  have hsz := bs_size l
  have HC : Hid (Lib.strCells (bs l) = b8 l) := b8_str l
  obtain ⟨T, hT⟩ : ∃ T, repT l n = T := ⟨_, rfl⟩
  obtain ⟨E, hE⟩ : ∃ E, repE l n = E := ⟨_, rfl⟩
  rw [hT, hE]
  have HT : Hid (repT l n = T ∧ repE l n = E) := ⟨hT, hE⟩
  clear hT hE
  generalize bs l = L at *
  go_enter Try.func27, Try.ntmps27
  go_wp2_with fail
  go_loopg [6, 7] 20000 (fun k t6 t7 wr => ∃ (i : Nat) (v : Value), t6 = v ∧ t7 = .int .i64 (i : Int) ∧ ((i : Int) ≤ n ∨ i = 0) ∧ i ≤ 16384 ∧ Hid (k = 20000 - i ∧ Below w.heap.size w wr ∧ OB wr w.heap.size v (Lib.repeatL l i) ∧ (i = 0 ∨ 0 < l.length) ∧ (i * l.length : Int) ≤ 16384))
  case atStart =>
    refine ⟨0, _, rfl, rfl, .inr rfl, by omega, ⟨rfl, ?_, ?_, .inl rfl, by simp⟩⟩
    · exact (Below.refl _ w).alloc (Nat.le_refl _) _
    · exact ob_empty w
  case round =>
    obtain ⟨i, v, rfl, rfl, hin, hi16, HI⟩ := hrel
    obtain ⟨hk, hbl, hob, hpos, hmul⟩ := HI.out
    obtain ⟨av, cv, rfl⟩ := rowShape hob
    have hlen := rep_len l i
    by_cases c : (i : Int) < n ∧ 0 < l.length
    · obtain ⟨c1, c2⟩ := c
      have hsucc : ((i : Int) + 1) * l.length = i * l.length + l.length := by rw [Int.add_mul, Int.one_mul]
      have HB : Hid (Below w.heap.size w wr) := hbl
      by_cases c3 : ((Lib.repeatL l i).length : Int) + l.length > 16384
      · have hge : ((i : Int) + 1) * l.length ≤ n * l.length := Int.mul_le_mul_of_nonneg_right (by omega) (by omega)
        obtain ⟨t1, t2⟩ := HT.out
        unfold repT at t1
        unfold repE at t2
        rw [if_pos (by omega)] at t1 t2
        subst t1 t2
        have c4 : (0 : Int) < (l.length : Int) := by omega
        have hmm : (Lib.repeatL l i).length ≤ 16384 := by omega
        clear HT HI hbl hob hpos hsucc hge HC c2 hlen
        generalize (Lib.repeatL l i).length = m at *
        go_wp2
        go_ret2
        exact ⟨rfl, HB.out⟩
      · have HN : Hid (∀ (v' : Value) (w2 : World), w2.ownsRow w.heap.size 5 1 v' ((Lib.repeatL l i).length + l.length) (b8 (Lib.repeatL l i) ++ Lib.strCells L) → wr.grownBy w2 (Value.ownBlock (.slice av (Lib.repeatL l i).length cv)) →
            Below w.heap.size w w2 ∧ OB w2 w.heap.size v' (Lib.repeatL l (i + 1)) ∧ ((i : Int) + 1) * l.length ≤ 16384) := by
          intro v' w2 q1 q2
          refine ⟨hbl.trans ((Below.refl _ wr).grown q2 hbl.size (fun k hk => (World.ownsRow.lt hob k hk).1)), ?_, by omega⟩
          unfold OB
          rw [rep_snoc, List.length_append, b8_append, ← HC.out]
          exact q1
        have c4 : (0 : Int) < (l.length : Int) := by omega
        have hB := hbl.size
        have hi2 : (i : Int) + 1 ≤ 16384 := by
          have : ((i : Int) + 1) * 1 ≤ ((i : Int) + 1) * l.length := Int.mul_le_mul_of_nonneg_left (by omega) (by omega)
          omega
        have hown : wr.ownsRow w.heap.size 5 1 (.slice av (Lib.repeatL l i).length cv) (Lib.repeatL l i).length (b8 (Lib.repeatL l i)) := hob
        clear HT HI hbl hob hpos hsucc HC hlen hmul
        generalize (Lib.repeatL l i).length = m at *
        generalize b8 (Lib.repeatL l i) = xs at *
        go_wp2_with (at_builtin; refine Lib.wpList_append_own_string _ rfl _ _ 42 9 rfl w.heap.size 5 i0 Try.underlying42 Try.underlying9 hi hz0 hz1 hz2 _ m xs rfl hown L rfl (by unfold maxLen; omega) (by omega) hB ?_)
        intro v' w4 hown' hgrow hat
        have HN3 : Hid _ := HN.out v' w4 hown' hgrow
        clear hown' hgrow hat hown HN
        go_wp2_with fail
        go_roundg (20000 - (i + 1))
        case measure => omega
        case rel => exact ⟨i + 1, _, rfl, by go_num, .inl (by omega), by omega, ⟨rfl, HN3.out.1, HN3.out.2.1, .inr (by omega), by have := HN3.out.2.2; rw [Int.natCast_add]; exact this⟩⟩
    · have hcv := hob.conv
      have hfin : T = Lib.repeatL l i ∧ E = 0 := by
        obtain ⟨t1, t2⟩ := HT.out
        rcases hpos with rfl | hp
        · have : l = [] ∨ n < 1 := by
            by_cases e : 0 < l.length
            · exact .inr (by omega)
            · exact .inl (List.eq_nil_of_length_eq_zero (by omega))
          obtain ⟨e1, e2⟩ := rep_none this
          rw [← t1, ← t2, e1, e2]
          exact ⟨rfl, rfl⟩
        · have hni : n ≤ i := by omega
          rcases hin with h | h
          · have : n = i := by omega
            subst this
            unfold repT at t1
            unfold repE at t2
            rw [if_neg (by omega)] at t1 t2
            rw [← t1, ← t2, Int.toNat_natCast]
            exact ⟨rfl, rfl⟩
          · subst h
            obtain ⟨e1, e2⟩ := rep_none (l := l) (n := n) (.inr (by omega))
            rw [← t1, ← t2, e1, e2]
            exact ⟨rfl, rfl⟩
      obtain ⟨rfl, rfl⟩ := hfin
      have HB : Hid (Below w.heap.size w wr) := hbl
      clear HT HI hbl hob hpos hmul HC hlen
      generalize (Lib.repeatL l i).length = m at *
      obtain ⟨R, hR⟩ : ∃ R, bs (Lib.repeatL l i) = R := ⟨_, rfl⟩
      rw [hR] at hcv
      have HR : Hid (bs (Lib.repeatL l i) = R) := hR
      clear hR
      by_cases c1 : (i : Int) < n
      · have c2 : ¬ (0 : Int) < (l.length : Int) := fun h => c ⟨c1, by omega⟩
        clear c
        go_wp2
        go_ret2
        exact ⟨by rw [HR.out]; rfl, HB.out⟩
      · clear c
        go_wp2
        go_ret2
        exact ⟨by rw [HR.out]; rfl, HB.out⟩

end Go.Proofs.Ytflbolbhdiloeaa
