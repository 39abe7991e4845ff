/-
  Layer 15: TextReps walked.
-/
import Derived.Test.YtflbolbhdiloeaaTtRep
namespace Go.Proofs.Ytflbolbhdiloeaa
set_option maxRecDepth 100000
open Go.RowKit Txt Tt

theorem rep_get (l : List UInt8) : ∀ (c o : Nat), o < c * l.length → (Lib.repeatL l c).getD o 0 = l.getD (o % l.length) 0
  | 0, o, h => by omega
  | c + 1, o, h => by
    rw [Nat.succ_mul] at h
    show (l ++ Lib.repeatL l c).getD o 0 = _
    by_cases e : o < l.length
    · rw [Nat.mod_eq_of_lt e, List.getD_eq_getElem?_getD, List.getElem?_append_left e, ← List.getD_eq_getElem?_getD]
    · rw [List.getD_eq_getElem?_getD, List.getElem?_append_right (by omega), ← List.getD_eq_getElem?_getD, rep_get l c (o - l.length) (by omega), Nat.mod_eq_sub_mod (a := o) (by omega)]
theorem byt_in {l : List UInt8} {o : Nat} (h : o < l.length) : bytZ l ((o : Int) + 1) = ((l.getD o 0).toNat : Int) ∧ bytB l ((o : Int) + 1) = true := by
  have hp : plc l.length ((o : Int) + 1) = o + 1 := by unfold plc; rw [if_pos (by omega)]
  unfold bytZ bytB
  rw [hp, if_pos (by omega), decide_eq_true (by omega), show ((o : Int) + 1 - 1).toNat = o by omega]
  exact ⟨rfl, rfl⟩

set_option maxHeartbeats 2000000 in
theorem textReps_walk (l : List UInt8) (k at' : Nat) (w : World) (hm : Mx w) (hl : l.length ≤ 140737488351232) (hk : k < 256) (hat : at' < 65536) :
    Calls Try.prog 8 #[.string (bs l), .int .u8 (k : Int), .int .u16 (at' : Int)] w fun e w' => e = .returned (.bool true) ∧ Below w.heap.size w w' := by
  have hp := hm.pos
  have hr := rep_any l (k : Int) w hl (by omega) (by omega)
  have hsz := bs_size l
  have HL : Hid (∀ w1, Below w.heap.size w w1 → Calls Try.prog 13 #[] w1 fun e w' => e = .returned (.bool true) ∧ Below w.heap.size w w') := fun w1 hb =>
    (lives_any w1 (hm.below hb hp)).mono fun e w' ⟨a, b⟩ => ⟨a, hb.trans (b.mono hb.size)⟩
  have hbig : (l.length : Int) * (k : Int) ≤ 140737488351232 * 256 := Int.mul_le_mul (by omega) (by omega) (by omega) (by omega)
  have hbig0 : (0 : Int) ≤ (l.length : Int) * (k : Int) := Int.mul_nonneg (by omega) (by omega)
  unfold repT repE at hr
  by_cases c : 16384 < (k : Int) * l.length
  · rw [if_pos c, if_pos c] at hr
    have c' : (l.length : Int) * (k : Int) > 16384 := by rw [Int.mul_comm]; exact c
    have hr' : Calls Try.prog 26 #[.string (bs l), .int .i64 (k : Int)] w fun e w' => e = .returned (.tuple #[.string ⟨#[]⟩, .int .i64 2]) ∧ Below w.heap.size w w' := hr
    clear hr c hm hp
    generalize bs l = L at *
    generalize hmm : (l.length : Int) * (k : Int) = mm at *
    go_enter Try.func8, Try.ntmps8
    go_wp2_with fail
    refine hr'.mono ?_
    rintro e w1 ⟨rfl, b1⟩
    have B1 : Hid _ := b1
    clear b1
    go_wp2_with fail
    refine (HL.out _ B1.out).mono ?_
    rintro e w2 ⟨rfl, b2⟩
    have B2 : Hid _ := b2
    clear b2
    go_wp2
    go_ret
    exact ⟨rfl, B2.out⟩
  · rw [if_neg c, if_neg c, Int.toNat_natCast] at hr
    have hlen := rep_len l k
    have hT := bs_size (Lib.repeatL l k)
    obtain ⟨M, hM⟩ : ∃ M, (Lib.repeatL l k).length = M := ⟨_, rfl⟩
    rw [hM] at hT hlen
    have hmm : (l.length : Int) * (k : Int) = (M : Int) := by rw [Int.mul_comm, hlen]
    have hM16 : M ≤ 16384 := by omega
    by_cases c0 : M = 0
    · subst c0
      clear hm hp hlen hM c
      generalize bs (Lib.repeatL l k) = T at *
      generalize bs l = L at *
      go_enter Try.func8, Try.ntmps8
      go_wp2_with fail
      refine hr.mono ?_
      rintro e w1 ⟨rfl, b1⟩
      have B1 : Hid _ := b1
      clear b1
      go_wp2_with fail
      refine (HL.out _ B1.out).mono ?_
      rintro e w2 ⟨rfl, b2⟩
      have B2 : Hid _ := b2
      clear b2
      go_wp2
      go_ret
      exact ⟨rfl, B2.out⟩
    · have hl0 : 0 < l.length := by
        rcases Nat.eq_zero_or_pos l.length with h | h
        · rw [h] at hmm; simp at hmm; omega
        · exact h
      obtain ⟨o, ho⟩ : ∃ o : Nat, o = at' % M := ⟨_, rfl⟩
      have hoM : o < M := by rw [ho]; exact Nat.mod_lt _ (by omega)
      have hor : (at' : Int) % (M : Int) = (o : Int) := by rw [ho, Int.natCast_emod]
      obtain ⟨q, hq⟩ : ∃ q : Nat, q = o % l.length := ⟨_, rfl⟩
      have hqr : (o : Int) % (l.length : Int) = (q : Int) := by rw [hq, Int.natCast_emod]
      have hql : q < l.length := by rw [hq]; exact Nat.mod_lt _ hl0
      have hg : (Lib.repeatL l k).getD o 0 = l.getD q 0 := by
        rw [hq]; exact rep_get l k o (by rw [← Lib.repeatL_length, hM]; exact hoM)
      have hb1 := fun w => byte_any (Lib.repeatL l k) ((o : Int) + 1) w (by omega) (by omega) (by omega)
      have hb2 := fun w => byte_any l ((q : Int) + 1) w hl (by omega) (by omega)
      obtain ⟨e1, e2⟩ := byt_in (l := Lib.repeatL l k) (o := o) (by rw [hM]; exact hoM)
      obtain ⟨e3, e4⟩ := byt_in hql
      rw [e1, e2, hg] at hb1
      rw [e3, e4] at hb2
      clear hm hp hlen hM c e1 e2 e3 e4 hg hq ho
      generalize bs (Lib.repeatL l k) = T at *
      generalize bs l = L at *
      generalize ((l.getD q 0).toNat : Int) = bz at *
      generalize l.length = nl at *
      go_enter Try.func8, Try.ntmps8
      go_wp2_with fail
      refine hr.mono ?_
      rintro e w1 ⟨rfl, b1⟩
      have B1 : Hid _ := b1
      clear b1
      go_wp2_with fail
      refine (hb1 _).mono ?_
      rintro e w2 ⟨rfl, rfl⟩
      go_wp2_with fail
      refine (hb2 _).mono ?_
      rintro e w2 ⟨rfl, rfl⟩
      go_wp2_with fail
      refine (HL.out _ B1.out).mono ?_
      rintro e w2 ⟨rfl, b2⟩
      have B2 : Hid _ := b2
      clear b2
      go_wp2
      go_ret
      exact ⟨rfl, B2.out⟩

end Go.Proofs.Ytflbolbhdiloeaa
