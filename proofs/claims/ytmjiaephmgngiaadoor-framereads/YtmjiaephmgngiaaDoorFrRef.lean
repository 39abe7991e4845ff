/-
  The reference's Sum, the landed Sum, and lives, walked.
-/
import Derived.Test.YtmjiaephmgngiaaDoorFrSum
import Derived.Lib.SlBytesConst
namespace Go.Proofs.YtmjiaephmgngiaaDoor
open Go.RowKit Crc

theorem and1_i (a : Nat) (ha : a < 4294967296) : bits .and .u32 (a : Int) 1 = ((a % 2 : Nat) : Int) := by
  rw [show (1 : Int) = ((1 : Nat) : Int) from rfl, u32_and_nat a 1 ha (by decide)]
  rw [show (1 : Nat) = 2 ^ 1 - 1 from rfl, Nat.and_two_pow_sub_one_eq_mod]
theorem and1_b (a : Nat) (ha : a < 256) : bits .and .u8 (a : Int) 1 = ((a % 2 : Nat) : Int) := by
  rw [show (1 : Int) = ((1 : Nat) : Int) from rfl, u8_and_nat a 1 ha (by decide)]
  rw [show (1 : Nat) = 2 ^ 1 - 1 from rfl, Nat.and_two_pow_sub_one_eq_mod]

set_option maxHeartbeats 1000000 in
theorem refSum_any (v : Value) (l : List Nat) (w : World) (h : BR w v l) :
    Calls Tryd.prog 10 #[v] w fun e w' => e = .returned (.int .u32 (sumN l : Nat)) ∧ w' = w := by
  obtain ⟨h1, a, cap, rfl, h3, h4, h5⟩ := h
  unfold maxLen at h4
  have HS : Hid (Sm8 l) := h1
  have HX : Hid ((a = none ∧ cap = 0) ∨ ∃ x, a = some x ∧ ∀ i, i < l.length → w.cell? (x.add i) = some (.int .u8 (l.getD i 0 : Nat))) := h5
  have HLen : Hid (l.length ≤ cap) := h3
  obtain ⟨m, hm⟩ : ∃ m, m = l.length := ⟨_, rfl⟩
  have HM : Hid (m = l.length) := hm
  have hlen : m ≤ 9223372036854775807 := by omega
  rw [← hm]
  clear h1 h3 h4 h5 hm
  go_enter Tryd.func10, Tryd.ntmps10
  go_wp2_with fail
  go_loop [3, 4] (fun t3 t4 => ∃ i c : Nat, i ≤ m ∧ c < 4294967296 ∧ t4 = .int .i64 i ∧ t3 = .int .u32 c ∧ Hid (c = crcL 4294967295 (l.take i))) (fun _ t4 => m - (intOf t4).toNat)
  case atStart => exact ⟨0, 4294967295, Nat.zero_le _, by decide, rfl, rfl, rfl⟩
  case round =>
    obtain ⟨i, c, hi, hcl, rfl, rfl, HI⟩ := hrel
    by_cases hil : i < m
    · rcases HX.out with ⟨rfl, rfl⟩ | ⟨x, rfl, hcc⟩
      · exfalso; have := HLen.out; have := HM.out; omega
      · have hce := hcc i (by have := HM.out; omega)
        have hd := HS.out.getD i
        have HD : Hid (crcL 4294967295 (l.take (i + 1)) = crcB c (l.getD i 0)) := by
          have e := HI.out
          show _ = _
          rw [crcL_take (by have := HM.out; omega), ← e]
        generalize l.getD i 0 = d at hce hd HD
        clear HI hcc
        go_wp2_with fail
        go_loop [3, 5] (fun t3 t5 => ∃ k e : Nat, k ≤ 8 ∧ e < 4294967296 ∧ t5 = .int .i64 k ∧ t3 = .int .u32 e ∧ Hid (e = fsn k (c ^^^ d % 2 ^ k))) (fun _ t5 => 8 - (intOf t5).toNat)
        case atStart => exact ⟨0, c, Nat.zero_le _, hcl, rfl, rfl, by show c = c ^^^ d % 2 ^ 0; rw [Nat.pow_zero, Nat.mod_one, Nat.xor_zero]⟩
        case round =>
          obtain ⟨k, e, hk, hel, rfl, rfl, HJ⟩ := hrel
          by_cases hk8 : k < 8
          · have t1 := and1_i e hel
            obtain ⟨q, hq⟩ : ∃ q, q = d / 2 ^ k := ⟨_, rfl⟩
            have hqi : (d : Int) / 2 ^ k = (q : Int) := by rw [hq, Int.natCast_ediv, Int.natCast_pow]; rfl
            have hql : q < 256 := by rw [hq]; exact Nat.lt_of_le_of_lt (Nat.div_le_self _ _) hd
            have t2 := and1_b q hql
            have HB : Hid (e / 2 ^^^ (if e % 2 ≠ q % 2 then 3988292384 else 0) = fsn (k + 1) (c ^^^ d % 2 ^ (k + 1))) := by
              show _ = _
              rw [← bit_step, ← HJ.out, ← hq, bit_in (Nat.mod_lt _ (by decide))]
            obtain ⟨p, hp⟩ : ∃ p, p = e % 2 := ⟨_, rfl⟩
            obtain ⟨r, hr⟩ : ∃ r, r = q % 2 := ⟨_, rfl⟩
            rw [← hp] at t1 HB
            rw [← hr] at t2 HB
            have hp2 : p < 2 := by omega
            have hr2 : r < 2 := by omega
            by_cases hb : p = r
            · subst hb
              have HE : Hid (e / 2 = fsn (k + 1) (c ^^^ d % 2 ^ (k + 1))) := by have := HB.out; rw [if_neg (by simp), Nat.xor_zero] at this; exact this
              clear HB HJ hp hr hq
              go_wp2
              go_round
              case rel => exact ⟨k + 1, e / 2, by omega, by omega, by go_num, by go_num, HE⟩
              case measure => simp [intOf]; omega
            · have HE : Hid (e / 2 ^^^ 3988292384 = fsn (k + 1) (c ^^^ d % 2 ^ (k + 1))) := by have := HB.out; rw [if_pos hb] at this; exact this
              have hbb : ((p : Int) == (r : Int)) = false := by rw [beq_eq_false_iff_ne]; omega
              have t3 := xor_i (e / 2) 3988292384 (by omega) (by decide)
              have l3 : e / 2 ^^^ 3988292384 < 4294967296 := Nat.xor_lt_two_pow (n := 32) (show e / 2 < 2 ^ 32 by omega) (by decide)
              rw [Int.natCast_ediv] at t3
              generalize e / 2 ^^^ 3988292384 = e2 at t3 HE l3
              replace t3 : bits .xor .u32 ((e : Int) / 2) 3988292384 = (e2 : Int) := t3
              clear HB HJ hp hr hq
              go_wp2
              go_round
              case rel => exact ⟨k + 1, e2, by omega, l3, by go_num, rfl, HE⟩
              case measure => simp [intOf]; omega
          · have hk2 : k = 8 := by omega
            subst hk2
            have HE : Hid (e = crcL 4294967295 (l.take (i + 1))) := by
              have := HJ.out
              rw [Nat.mod_eq_of_lt (show d < 2 ^ 8 from hd)] at this
              rw [HD.out]; exact this
            clear HJ
            go_wp2
            go_round
            case rel => exact ⟨i + 1, e, by omega, hel, by go_num, rfl, HE⟩
            case measure => simp [intOf]; omega
    · have hj2 : i = m := by omega
      subst hj2
      have HE : Hid (bits .xor .u32 IntKind.u32.max (c : Int) = ((sumN l : Nat) : Int)) := by
        have := HI.out
        rw [List.take_of_length_le (by have := HM.out; omega)] at this
        show _ = _
        rw [show IntKind.u32.max = ((4294967295 : Nat) : Int) from rfl, xor_i _ _ (by decide) hcl, Nat.xor_comm, this]; rfl
      have t1 := HE.out
      clear HI
      go_wp2
      go_ret
      exact ⟨rfl, rfl⟩

theorem cells_at (w : World) (cs : Array Value) (t j : Nat) (fr : Nat × Nat) {u : Value} (h : cs[j]? = some u) : (w.alloc (.cells cs t fr)).cell? ⟨w.heap.size, j, none⟩ = some u := by
  unfold World.cell?
  rw [heap_alloc_new]
  exact h

set_option maxHeartbeats 400000 in
theorem sum_any (v : Value) (l : List Nat) (w : World) (h : BR w v l) (hT : Tb w) (h0 : 0 < w.heap.size) :
    Calls Tryd.prog 8 #[v] w fun e w' => e = .returned (.int .u32 (sumN l : Nat)) ∧ Below w.heap.size w w' := by
  have hb0 : Below w.heap.size w (w.alloc (.cells #[v] 22)) := (Below.refl _ _).alloc (Nat.le_refl _) _
  have hs := sumOf_any w.heap.size 1 [v] [l] (w.alloc (.cells #[v] 22)) rfl (by decide) (hT.below hb0 h0) (by
    intro j hj
    have : j = 0 := by omega
    subst this
    exact ⟨cells_at _ _ _ _ _ rfl, h.below hb0 (Nat.le_refl _)⟩)
  rw [show ([l] : List (List Nat)).flatten = l by simp] at hs
  have HB : Hid (Below w.heap.size w (w.alloc (.cells #[v] 22))) := hb0
  obtain ⟨_, a, cap, rfl, _⟩ := h
  clear hT hb0
  go_enter Tryd.func8, Tryd.ntmps8
  go_wp2_with fail
  refine hs.mono ?_
  rintro e w' ⟨rfl, rfl⟩
  go_wp2
  go_ret
  exact ⟨rfl, HB.out⟩

def nine : List Nat := [49, 50, 51, 52, 53, 54, 55, 56, 57]
theorem br_made (w : World) (l : List Nat) (fr : Nat × Nat) (hl : Sm8 l) (hn : l.length ≤ maxLen) : BR (w.alloc (.cells (c8 l).toArray 5 fr)) (.slice (some ⟨w.heap.size, 0, none⟩) l.length l.length) l := by
  refine ⟨hl, _, _, rfl, Nat.le_refl _, hn, Or.inr ⟨_, rfl, ?_⟩⟩
  intro i hi
  have : (⟨w.heap.size, 0, none⟩ : Addr).add i = ⟨w.heap.size, i, none⟩ := by unfold Addr.add; split <;> simp_all
  rw [this]
  exact cells_at _ _ _ _ _ (by rw [List.getElem?_toArray]; exact c8_get hi)

set_option maxHeartbeats 400000 in
theorem lives_any (w : World) (hT : Tb w) (h0 : 0 < w.heap.size) :
    Calls Tryd.prog 11 #[] w fun e w' => e = .returned (.bool true) ∧ Below w.heap.size w w' := by
  have hb0 : Below w.heap.size w (w.alloc (.cells (c8 nine).toArray 5 (9, 10))) := (Below.refl _ _).alloc (Nat.le_refl _) _
  have hs := sum_any _ nine _ (br_made w nine (9, 10) (by unfold Sm8 nine; decide) (by decide)) (hT.below hb0 h0) (by simp)
  rw [show sumN nine = 3421780262 from sum_lives] at hs
  have HB : Hid (Below w.heap.size w (w.alloc (.cells (c8 nine).toArray 5 (9, 10)))) := hb0
  have HW : Hid (w.heap.size ≤ (w.alloc (.cells (c8 nine).toArray 5 (9, 10))).heap.size) := hb0.size
  have kc := fun (w : World) (C : Array Value) (n c : Nat) => Lib.run_convert_bytes_const (P := Tryd.prog) w 22 5 C n c Tryd.underlying22 Tryd.underlying5
  clear hb0 hT
  go_enter Tryd.func11, Tryd.ntmps11
  go_wp2_with fail
  refine hs.mono ?_
  rintro e w' ⟨rfl, hb⟩
  have HB2 : Hid (Below w.heap.size w w') := HB.out.trans (hb.mono HW.out)
  clear hb
  go_wp2
  go_ret
  exact ⟨rfl, HB2.out⟩

end Go.Proofs.YtmjiaephmgngiaaDoor
