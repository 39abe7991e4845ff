/-
  Layer 15: the order of texts: plain, and the landed and the reference's Less, walked; TextOrders.
-/
import Derived.Test.YtflbolbhdiloeaaTtRev2
namespace Go.Proofs.Ytflbolbhdiloeaa
set_option maxRecDepth 100000
open Go.RowKit Txt Tt

theorem bl_self : ∀ a : List UInt8, Op.bytesLess a a = false
  | [] => rfl
  | x :: r => by
    unfold Op.bytesLess
    rw [bl_self r]; simp
theorem bl_asym : ∀ a b : List UInt8, Op.bytesLess a b = true → Op.bytesLess b a = false
  | [], [], h => by simp [Op.bytesLess] at h
  | [], _ :: _, _ => by simp [Op.bytesLess]
  | _ :: _, [], h => by simp [Op.bytesLess] at h
  | x :: a, y :: b, h => by
    unfold Op.bytesLess at h ⊢
    simp only [Bool.or_eq_true, decide_eq_true_eq, Bool.and_eq_true, beq_iff_eq] at h
    rcases h with h | ⟨rfl, h⟩
    · have h1 : ¬ y < x := fun h2 => absurd (UInt8.lt_trans h h2) (UInt8.lt_irrefl _)
      have h2 : (y == x) = false := by rw [beq_eq_false_iff_ne]; intro e; subst e; exact UInt8.lt_irrefl _ h
      simp [h1, h2]
    · rw [bl_asym a b h]; simp
theorem bl_total : ∀ a b : List UInt8, a ≠ b → Op.bytesLess a b = true ∨ Op.bytesLess b a = true
  | [], [], h => absurd rfl h
  | [], _ :: _, _ => by simp [Op.bytesLess]
  | _ :: _, [], _ => by simp [Op.bytesLess]
  | x :: a, y :: b, h => by
    unfold Op.bytesLess
    simp only [Bool.or_eq_true, decide_eq_true_eq, Bool.and_eq_true, beq_iff_eq]
    by_cases e : x = y
    · subst e
      have : a ≠ b := fun e => h (by rw [e])
      rcases bl_total a b this with h2 | h2
      · exact .inl (.inr ⟨rfl, h2⟩)
      · exact .inr (.inr ⟨rfl, h2⟩)
    · by_cases c : x < y
      · exact .inl (.inl c)
      · refine .inr (.inl ?_)
        have h1 : x.toNat ≠ y.toNat := fun e2 => e (UInt8.toNat_inj.1 e2)
        rw [UInt8.lt_iff_toNat_lt] at c ⊢
        omega
theorem bl_trans : ∀ a b c : List UInt8, Op.bytesLess a b = true → Op.bytesLess b c = true → Op.bytesLess a c = true
  | [], [], _, h, _ => by simp [Op.bytesLess] at h
  | [], _ :: _, [], _, h => by simp [Op.bytesLess] at h
  | [], _ :: _, _ :: _, _, _ => by simp [Op.bytesLess]
  | _ :: _, [], _, h, _ => by simp [Op.bytesLess] at h
  | _ :: _, _ :: _, [], _, h => by simp [Op.bytesLess] at h
  | x :: a, y :: b, z :: c, h1, h2 => by
    unfold Op.bytesLess at h1 h2 ⊢
    simp only [Bool.or_eq_true, decide_eq_true_eq, Bool.and_eq_true, beq_iff_eq] at h1 h2 ⊢
    rcases h1 with h1 | ⟨rfl, h1⟩
    · rcases h2 with h2 | ⟨rfl, h2⟩
      · exact .inl (UInt8.lt_trans h1 h2)
      · exact .inl h1
    · rcases h2 with h2 | ⟨rfl, h2⟩
      · exact .inl h2
      · exact .inr ⟨rfl, bl_trans a b c h1 h2⟩
theorem bl_step {a b : List UInt8} {i : Nat} (ha : i < a.length) (hb : i < b.length) : Op.bytesLess (a.drop i) (b.drop i) = (decide (a[i] < b[i]) || (a[i] == b[i] && Op.bytesLess (a.drop (i + 1)) (b.drop (i + 1)))) := by
  rw [List.drop_eq_getElem_cons ha, List.drop_eq_getElem_cons hb]; rfl
theorem bl_end {a b : List UInt8} {i : Nat} (h : i = a.length ∨ i = b.length) (ha : i ≤ a.length) (hb : i ≤ b.length) : Op.bytesLess (a.drop i) (b.drop i) = decide (a.length < b.length) := by
  rcases h with rfl | rfl
  · rw [List.drop_length]
    by_cases c : a.length < b.length
    · rw [decide_eq_true c, List.drop_eq_getElem_cons c]; rfl
    · rw [decide_eq_false c, List.drop_eq_nil_of_le (by omega)]; rfl
  · rw [List.drop_length, decide_eq_false (by omega)]
    by_cases c : b.length < a.length
    · rw [List.drop_eq_getElem_cons c]; rfl
    · rw [List.drop_eq_nil_of_le (by omega)]; rfl

theorem less_any (a b : List UInt8) (w : World) : Calls Try.prog 24 #[.string (bs a), .string (bs b)] w fun e w' => e = .returned (.bool (Op.bytesLess a b)) ∧ w' = w := by
  have h1 := bs_toList a
  have h2 := bs_toList b
  generalize bs a = A at *
  generalize bs b = B at *
  go_enter Try.func24, Try.ntmps24
  go_wp2
  go_ret
  refine ⟨?_, rfl⟩
  rw [← h1, ← h2]
  rfl

set_option maxHeartbeats 2000000 in
theorem rless_any (a b : List UInt8) (w : World) (ha : a.length ≤ 140737488351232) :
    Calls Try.prog 25 #[.string (bs a), .string (bs b)] w fun e w' => e = .returned (.bool (Op.bytesLess a b)) ∧ Below w.heap.size w w' := by
  have mixed : Try.prog.follows Departure.mixedOrders = true := by kernel_rfl
  have h1 := bs_size a
  have h2 := bs_size b
  have HA : Hid (∀ k (h : k < (bs a).size) (h2 : k < a.length), (bs a)[k]'h = a[k]'h2) := fun k h _ => bs_get a k h
  have HB : Hid (∀ k (h : k < (bs b).size) (h2 : k < b.length), (bs b)[k]'h = b[k]'h2) := fun k h _ => bs_get b k h
  have HR : Hid (Op.bytesLess (a.drop 0) (b.drop 0) = Op.bytesLess a b) := rfl
  generalize bs a = A at *
  generalize bs b = B at *
  generalize Op.bytesLess a b = R at *
  go_enter Try.func25, Try.ntmps25
  go_wp2_with fail
  go_loopg [5] a.length (fun k t5 wr => ∃ i : Nat, t5 = .int .i64 (i : Int) ∧ i ≤ a.length ∧ i ≤ b.length ∧ Hid (k = a.length - i ∧ Below w.heap.size w wr ∧ Op.bytesLess (a.drop i) (b.drop i) = R))
  case atStart => exact ⟨0, rfl, Nat.zero_le _, Nat.zero_le _, ⟨rfl, Below.refl _ _, HR.out⟩⟩
  case round =>
    obtain ⟨i, rfl, hia, hib, HI⟩ := hrel
    obtain ⟨hk, hbl, hR⟩ := HI.out
    by_cases c : i < a.length ∧ i < b.length
    · obtain ⟨ca, cb⟩ := c
      have cA : i < A.size := by omega
      have cB : i < B.size := by omega
      have ga := HA.out i cA ca
      have gb := HB.out i cB cb
      rw [bl_step ca cb] at hR
      have HB1 : Hid (Below w.heap.size w wr.drew) := hbl.drew
      have HB2 : Hid (Below w.heap.size w wr.drew.drew) := hbl.drew.drew
      have ci1 : (i : Int) < a.length := by omega
      have ci2 : (i : Int) < b.length := by omega
      have HD : Hid (Op.bytesLess (a.drop (i + 1)) (b.drop (i + 1)) = Op.bytesLess (a.drop (i + 1)) (b.drop (i + 1))) := rfl
      by_cases e : a[i] = b[i]
      · have hR2 : Op.bytesLess (a.drop (i + 1)) (b.drop (i + 1)) = R := by
          rw [← hR, e]
          simp [UInt8.lt_irrefl]
        have HR2 : Hid (Op.bytesLess (a.drop (i + 1)) (b.drop (i + 1)) = R) := hR2
        rw [e] at ga
        generalize (b[i]'cb) = y at *
        clear HI hbl hR hR2 HR HD
        go_wp2_with fail
        go_region_o
        go_wp2_with fail
        go_roundg (a.length - (i + 1))
        case measure => omega
        case rel => exact ⟨i + 1, by go_num, by omega, by omega, ⟨rfl, HB1.out, HR2.out⟩⟩
      · have hne : ((a[i].toNat : Int) == (b[i].toNat : Int)) = false := by
          rw [beq_eq_false_iff_ne]
          intro e2
          exact e (UInt8.toNat_inj.1 (by omega))
        have hR2 : decide (a[i].toNat < b[i].toNat) = R := by
          rw [← hR]
          simp only [beq_eq_false_iff_ne.2 e, Bool.false_and, Bool.or_false]
          rw [decide_eq_decide, UInt8.lt_iff_toNat_lt]
        have HR2 : Hid (decide (a[i].toNat < b[i].toNat) = R) := hR2
        clear HI hbl hR HR HD e hR2
        generalize (a[i]'ca) = x at *
        generalize (b[i]'cb) = y at *
        go_wp2_with fail
        go_region_o
        go_wp2_with fail
        go_region_o
        go_wp2
        go_ret
        exact ⟨by rw [← HR2.out]; rfl, HB2.out⟩
    · have hor : i = a.length ∨ i = b.length := by omega
      rw [bl_end hor hia hib] at hR
      have HR2 : Hid (decide (a.length < b.length) = R) := hR
      have HB1 : Hid (Below w.heap.size w wr) := hbl
      clear HI hbl hR HR
      by_cases c1 : i < a.length
      · have c2 : ¬ (i : Int) < (b.length : Int) := by omega
        have c3 : (i : Int) < (a.length : Int) := by omega
        clear c hor
        go_wp2
        go_ret
        exact ⟨by rw [← HR2.out]; rfl, HB1.out⟩
      · have c3 : ¬ (i : Int) < (a.length : Int) := by omega
        clear c hor
        go_wp2
        go_ret
        exact ⟨by rw [← HR2.out]; rfl, HB1.out⟩

set_option maxHeartbeats 4000000 in
theorem textOrders_walk (a b c : List UInt8) (w : World) (hm : Mx w) (ha : a.length ≤ 140737488351232) :
    Calls Try.prog 7 #[.string (bs a), .string (bs b), .string (bs c)] w fun e w' => e = .returned (.bool true) ∧ Below w.heap.size w w' := by
  have hab := fun w => less_any a b w
  have hba := fun w => less_any b a w
  have hbc := fun w => less_any b c w
  have hac := fun w => less_any a c w
  have hr1 := fun w => rev_any a w ha
  have hr2 := fun w => rev_any a.reverse w (by rw [List.length_reverse]; exact ha)
  rw [List.reverse_reverse] at hr2
  have hE : ((bs a).toList == (bs b).toList) = decide (a = b) := by
    rw [bs_toList, bs_toList]
    by_cases e : a = b
    · subst e; simp
    · rw [decide_eq_false e, beq_eq_false_iff_ne]; exact e
  have hp := hm.pos
  have T1 : Op.bytesLess a b = true → Op.bytesLess b a = false := bl_asym a b
  have T2 : a ≠ b → Op.bytesLess a b = true ∨ Op.bytesLess b a = true := bl_total a b
  have T3 : a = b → Op.bytesLess a b = false ∧ Op.bytesLess b a = false := fun e => by subst e; exact ⟨bl_self _, bl_self _⟩
  have T4 := bl_trans a b c
  generalize Op.bytesLess a b = X at *
  generalize Op.bytesLess b a = Y at *
  generalize Op.bytesLess b c = Z at *
  generalize Op.bytesLess a c = V at *
  generalize bs a.reverse = R at *
  generalize bs b = B at *
  generalize bs c = C at *
  have hfin : ∀ w2, Below w.heap.size w w2 → Calls Try.prog 13 #[] w2 fun e w' => e = .returned (.bool true) ∧ Below w.heap.size w w' := fun w2 h2 =>
    (lives_any w2 (hm.below h2 hp)).mono fun e w' ⟨h3, h4⟩ => ⟨h3, h2.trans (h4.mono h2.size)⟩
  have hrr1 : Calls Try.prog 22 #[.string (bs a)] w fun e w' => e = .returned (.string R) ∧ Below w.heap.size w w' := hr1 w
  have hrr2 : ∀ w1, Below w.heap.size w w1 → Calls Try.prog 22 #[.string R] w1 fun e w' => e = .returned (.string (bs a)) ∧ Below w.heap.size w w' := fun w1 h1 =>
    (hr2 w1).mono fun e w' ⟨h3, h4⟩ => ⟨h3, h1.trans (h4.mono h1.size)⟩
  generalize bs a = A at *
  clear hr1 hr2 hm hp ha
  by_cases e : a = b
  · obtain ⟨rfl, rfl⟩ := T3 e
    rw [decide_eq_true e] at hE
    clear T1 T2 T3 T4 e
    go_enter Try.func7, Try.ntmps7
    go_wp2_with fail
    refine (hab _).mono ?_
    rintro e w' ⟨rfl, rfl⟩
    go_wp2_with fail
    refine (hba _).mono ?_
    rintro e w' ⟨rfl, rfl⟩
    go_wp2_with fail
    refine hrr1.mono ?_
    rintro e w1 ⟨rfl, hb1⟩
    have H1 : Hid _ := hb1
    clear hb1
    go_wp2_with fail
    refine (hrr2 _ H1.out).mono ?_
    rintro e w2 ⟨rfl, hb2⟩
    have H2 : Hid _ := hb2
    clear hb2
    go_wp2_with fail
    refine (hfin _ H2.out).mono ?_
    rintro e w3 ⟨rfl, hb3⟩
    have H3 : Hid _ := hb3
    clear hb3
    go_wp2
    go_ret
    exact ⟨rfl, H3.out⟩
  · rw [decide_eq_false e] at hE
    have T5 := T2 e
    clear T2 T3 e
    cases X with
    | true =>
      obtain rfl := T1 rfl
      clear T1 T5
      cases Z with
      | true =>
        obtain rfl := T4 rfl rfl
        clear T4
        go_enter Try.func7, Try.ntmps7
        go_wp2_with fail
        refine (hab _).mono ?_
        rintro e w' ⟨rfl, rfl⟩
        go_wp2_with fail
        refine (hba _).mono ?_
        rintro e w' ⟨rfl, rfl⟩
        go_wp2_with fail
        refine (hbc _).mono ?_
        rintro e w' ⟨rfl, rfl⟩
        go_wp2_with fail
        refine (hac _).mono ?_
        rintro e w' ⟨rfl, rfl⟩
        go_wp2_with fail
        refine hrr1.mono ?_
        rintro e w1 ⟨rfl, hb1⟩
        have H1 : Hid _ := hb1
        clear hb1
        go_wp2_with fail
        refine (hrr2 _ H1.out).mono ?_
        rintro e w2 ⟨rfl, hb2⟩
        have H2 : Hid _ := hb2
        clear hb2
        go_wp2_with fail
        refine (hfin _ H2.out).mono ?_
        rintro e w3 ⟨rfl, hb3⟩
        have H3 : Hid _ := hb3
        clear hb3
        go_wp2
        go_ret
        exact ⟨rfl, H3.out⟩
      | false =>
        clear T4
        go_enter Try.func7, Try.ntmps7
        go_wp2_with fail
        refine (hab _).mono ?_
        rintro e w' ⟨rfl, rfl⟩
        go_wp2_with fail
        refine (hba _).mono ?_
        rintro e w' ⟨rfl, rfl⟩
        go_wp2_with fail
        refine (hbc _).mono ?_
        rintro e w' ⟨rfl, rfl⟩
        go_wp2_with fail
        refine hrr1.mono ?_
        rintro e w1 ⟨rfl, hb1⟩
        have H1 : Hid _ := hb1
        clear hb1
        go_wp2_with fail
        refine (hrr2 _ H1.out).mono ?_
        rintro e w2 ⟨rfl, hb2⟩
        have H2 : Hid _ := hb2
        clear hb2
        go_wp2_with fail
        refine (hfin _ H2.out).mono ?_
        rintro e w3 ⟨rfl, hb3⟩
        have H3 : Hid _ := hb3
        clear hb3
        go_wp2
        go_ret
        exact ⟨rfl, H3.out⟩
    | false =>
      obtain rfl : Y = true := by rcases T5 with h | h; · cases h
                                  · exact h
      clear T1 T4 T5
      go_enter Try.func7, Try.ntmps7
      go_wp2_with fail
      refine (hab _).mono ?_
      rintro e w' ⟨rfl, rfl⟩
      go_wp2_with fail
      refine (hba _).mono ?_
      rintro e w' ⟨rfl, rfl⟩
      go_wp2_with fail
      refine hrr1.mono ?_
      rintro e w1 ⟨rfl, hb1⟩
      have H1 : Hid _ := hb1
      clear hb1
      go_wp2_with fail
      refine (hrr2 _ H1.out).mono ?_
      rintro e w2 ⟨rfl, hb2⟩
      have H2 : Hid _ := hb2
      clear hb2
      go_wp2_with fail
      refine (hfin _ H2.out).mono ?_
      rintro e w3 ⟨rfl, hb3⟩
      have H3 : Hid _ := hb3
      clear hb3
      go_wp2
      go_ret
      exact ⟨rfl, H3.out⟩

end Go.Proofs.Ytflbolbhdiloeaa
