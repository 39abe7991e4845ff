/-
  Ps5, BkMath, DecBack, DecBackOwn
-/
import Derived.Deep.QuietTactic
import Derived.BigQuiet
import Derived.Test.YtjbnjfdpfkdmeaaDoorZ21

/-
  The landed shortest, and Print, walked for any number.
-/
namespace Go.Proofs.YtjbnjfdpfkdmeaaDoor
set_option maxRecDepth 100000
open Go.RowKit Pt Txt Flo

/-- The digits that are written of a number, and which power of ten the first stands for. -/
def tQ (Q : Nat) : List UInt8 := trimL (Lib.decDigits Q)
def eQ (P : Int) (m Q : Nat) : Int := P + if 10 ^ (m + 1) ≤ Q then 1 else 0

theorem bel_hyp {f d : Nat} : (bel f d = 1 ∧ f = 4503599627370496 ∧ -1074 < (d : Int) - 1074) ∨ (bel f d = 2 ∧ ¬ (f = 4503599627370496 ∧ -1074 < (d : Int) - 1074)) := by
  rcases bel_cases f d with ⟨h1, h2, h3⟩ | ⟨h1, h2⟩
  · exact Or.inl ⟨h1, h2, by omega⟩
  · refine Or.inr ⟨h1, ?_⟩
    rintro ⟨k1, k2⟩
    exact h2 ⟨k1, by omega⟩

theorem shortest_any {f d up down a c n m Q : Nat} {place : Int} (h : Pm f d up down a c n m Q place) (w : World) :
    Calls Tryd.prog 11 #[.int .i64 ((d : Int) - 1074), .int .u64 f] w fun e w' => e = .returned (.tuple #[.string (bs (tQ Q)), .int .i64 (eQ (place + n) m Q)]) ∧ Below w.heap.size w w' := by
  have hU := pm_U h
  have hd1 := h.d1
  have hf1 := h.f1
  obtain ⟨DS, g1, g2, g3⟩ := digF_run _ _ hU m 20 _ _ _ Q (by have := h.m16; omega) h.go h.at'
  have htop := digF_top hU h.lo h.hi g1
  have htold := told_digits g2 g3 htop
  have eU : 2 ^ down * 10 ^ (c + n) = 1 * 2 ^ down * 10 ^ c * 10 ^ n := by rw [Nat.pow_add, Nat.one_mul, Nat.mul_assoc]
  have eT : 4 * f * (2 ^ up * 10 ^ a) = f * 2 ^ (up + 2) * 10 ^ a := by rw [Nat.pow_add]; grind
  have eL : bel f d * (2 ^ up * 10 ^ a) = bel f d * 2 ^ up * 10 ^ a := by rw [Nat.mul_assoc]
  have eA : 2 * (2 ^ up * 10 ^ a) = 2 * 2 ^ up * 10 ^ a := by rw [Nat.mul_assoc]
  have HN : Hid (f * 2 ^ (up + 2) * 10 ^ a < 10 * (1 * 2 ^ down * 10 ^ c * 10 ^ n) ∧ ∀ j, j < n → 10 * (1 * 2 ^ down * 10 ^ c * 10 ^ j) ≤ f * 2 ^ (up + 2) * 10 ^ a) := by
    refine ⟨by rw [← eT, ← eU]; exact h.hi, fun j hj => ?_⟩
    have := h.st j hj
    rw [eT, Nat.pow_add, ← Nat.mul_assoc (2 ^ down)] at this
    rw [Nat.one_mul]; exact this
  rw [eU, eT, eL, eA] at g1
  obtain ⟨l1, l2, _, _⟩ := bitLen_bounds (x := f) (by have := h.f0; omega) (by omega)
  have HE : Hid (((f : Int) % 2 == 0) = (f % 2 == 0)) := by
    show _ = _
    rw [Bool.eq_iff_iff, beq_iff_eq, beq_iff_eq]; omega
  have hK := pm_K h
  have hKX := KX_eq
  generalize KX = K at *
  rcases htold with ⟨t1, t2, t3⟩ | ⟨t1, t2, t3⟩
  · subst t1 t2 t3
    have e1 : tQ 10 = [49] := trim_ten
    have e2 : eQ (place + n) 0 10 = place + n + 1 := by unfold eQ; rw [if_pos (by decide)]
    rw [e1, e2]
    exact shortest_ten _ f _ a c n K up down (bel f d) (f % 2 == 0) w (by omega) (by omega) (by omega) bel_hyp HE rfl l2 h.hu h.hd place h.hp h.ha h.hc h.hn (by omega) hK HN g1
  · have e1 : tQ Q = dtx DS := t2
    have e2 : eQ (place + n) m Q = place + n := by unfold eQ; rw [if_neg (by omega), Int.add_zero]
    rw [e1, e2]
    obtain ⟨D0, DR, hDS⟩ : ∃ x xs, DS = x :: xs := by
      cases DS with
      | nil => simp at g2
      | cons x xs => exact ⟨x, xs, rfl⟩
    exact shortest_dg _ f _ a c n K up down (bel f d) (f % 2 == 0) DS w (by omega) (by omega) (by omega) bel_hyp HE rfl l2 h.hu h.hd place h.hp h.ha h.hc h.hn (by omega) hK HN
      D0 (by rw [hDS]; rfl) (t1 D0 (by rw [hDS]; simp)) (fun j => by
        rcases Nat.lt_or_ge j DS.length with k | k
        · rw [List.getD_eq_getElem?_getD, List.getElem?_eq_getElem k]
          exact t1 _ (List.getElem_mem k)
        · rw [List.getD_eq_getElem?_getD, List.getElem?_eq_none k]
          exact Nat.zero_le _) (by omega) (by have := h.m16; omega) g1

/-- The sign ahead. -/
def sgT (a : Int) : List UInt8 := if belowB a then [45] else []
/-- What is written of a number. -/
def PrS (a : Int) (L : List UInt8) : Prop :=
  (kindZ a = 4 ∧ L = [110, 97, 110]) ∨ (kindZ a = 3 ∧ L = sgT a ++ [105, 110, 102]) ∨ (kindZ a = 0 ∧ L = sgT a ++ [48]) ∨
  ((kindZ a = 1 ∨ kindZ a = 2) ∧ ∃ (f d up down x c n m Q : Nat) (place : Int), pexp a = (d : Int) - 1074 ∧ pfrac a = (f : Int) ∧ mag a = ((d * 4503599627370496 + f : Nat) : Int) ∧ Pm f d up down x c n m Q place ∧ L = sgT a ++ layT (tQ Q) (eQ (place + n) m Q))
/-- The parts of a finite number. -/
theorem fin_parts {a : Int} (ha : U64 a) (hk : kindZ a = 1 ∨ kindZ a = 2) : ∃ f d : Nat, pexp a = (d : Int) - 1074 ∧ pfrac a = (f : Int) ∧ mag a = ((d * 4503599627370496 + f : Nat) : Int) ∧ 0 < f ∧ f < 9007199254740992 ∧ (d = 0 ∨ 4503599627370496 ≤ f) ∧ d ≤ 2045 := by
  obtain ⟨m1, m2, m3, m4, m5⟩ := mag_parts ha
  unfold kindZ at hk
  rcases hk with hk | hk
  · have hm : mag a ≠ 0 ∧ mag a < 4503599627370496 := by
      split at hk
      · omega
      · split at hk
        · omega
        · split at hk
          · omega
          · split at hk
            · omega
            · omega
    have hkz : kindZ a = 1 := by unfold kindZ; exact hk
    refine ⟨(frac a).toNat, 0, ?_, ?_, ?_, ?_, ?_, Or.inl rfl, by omega⟩
    · unfold pexp; rw [if_pos hkz]; rfl
    · unfold pfrac; rw [if_pos hkz]; omega
    · omega
    · omega
    · omega
  · have hm : 4503599627370496 ≤ mag a ∧ mag a < 9218868437227405312 := by
      split at hk
      · omega
      · split at hk
        · omega
        · split at hk
          · omega
          · split at hk
            · omega
            · omega
    have hkz : kindZ a = 2 := by unfold kindZ; exact hk
    refine ⟨(frac a + 4503599627370496).toNat, (expo a - 1).toNat, ?_, ?_, ?_, ?_, ?_, Or.inr ?_, ?_⟩
    · unfold pexp; rw [if_neg (by omega), if_pos hkz]; omega
    · unfold pfrac; rw [if_neg (by omega), if_pos hkz]; omega
    · omega
    · omega
    · omega
    · omega
    · omega
theorem trimL_len : ∀ (n : Nat) (l : List UInt8), l.length = n → l ≠ [] → 1 ≤ (trimL l).length ∧ (trimL l).length ≤ n := by
  intro n
  induction n with
  | zero => intro l h h2; exact absurd (List.length_eq_zero_iff.1 h) h2
  | succ n ih =>
    intro l h h2
    rw [trimL_eq]
    split
    · next k =>
      have := ih l.dropLast (by simp [h]) (by intro e; have := congrArg List.length e; simp at this; omega)
      omega
    · omega
theorem tQ_len {f d up down x c n m Q : Nat} {place : Int} (h : Pm f d up down x c n m Q place) : 1 ≤ (tQ Q).length ∧ (tQ Q).length ≤ 18 := by
  have h1 := trimL_len _ _ rfl (dec_spec Q).2.2
  obtain ⟨DS, g1, g2, g3⟩ := digF_run _ _ (pm_U h) m 20 _ _ _ Q (by have := h.m16; omega) h.go h.at'
  have htold := told_digits g2 g3 (digF_top (pm_U h) h.lo h.hi g1)
  have hm := h.m16
  rcases htold with ⟨_, _, rfl⟩ | ⟨_, _, t⟩
  · have : (Lib.decDigits 10).length ≤ 2 := (dec_length 2 10 (by decide)).2 (by decide)
    unfold tQ; omega
  · have := (dec_length (m + 1) Q (by omega)).2 t
    unfold tQ; omega
theorem prs_exists {a : Int} (ha : U64 a) : ∃ L, PrS a L := by
  rcases kind_vals a with h | h | h | h | h
  · exact ⟨_, Or.inr (Or.inr (Or.inl ⟨h, rfl⟩))⟩
  · obtain ⟨f, d, h1, h2, h3, f0, f1, d0, d1⟩ := fin_parts ha (Or.inl h)
    obtain ⟨up, down, x, c, n, m, Q, place, hp⟩ := pm_exists f0 f1 d0 d1
    exact ⟨_, Or.inr (Or.inr (Or.inr ⟨Or.inl h, f, d, up, down, x, c, n, m, Q, place, h1, h2, h3, hp, rfl⟩))⟩
  · obtain ⟨f, d, h1, h2, h3, f0, f1, d0, d1⟩ := fin_parts ha (Or.inr h)
    obtain ⟨up, down, x, c, n, m, Q, place, hp⟩ := pm_exists f0 f1 d0 d1
    exact ⟨_, Or.inr (Or.inr (Or.inr ⟨Or.inr h, f, d, up, down, x, c, n, m, Q, place, h1, h2, h3, hp, rfl⟩))⟩
  · exact ⟨_, Or.inr (Or.inl ⟨h, rfl⟩)⟩
  · exact ⟨_, Or.inl ⟨h, rfl⟩⟩
theorem pm_place {f d up down x c n m Q : Nat} {place : Int} (h : Pm f d up down x c n m Q place) : -400 ≤ place + n ∧ place + n ≤ 400 := by
  have h0 := pm_P h
  have e1 := h.hp
  have e2 := h.ha
  have e3 := h.hc
  have e4 := h.hu
  have e5 := h.hd
  have e6 := h.d1
  have hlo := h.lo
  obtain ⟨l1, l2, _, _⟩ := bitLen_bounds (x := f) (by have := h.f0; omega) (by have := h.f1; omega)
  have hf := h.f1
  refine ⟨by omega, ?_⟩
  -- 10 ^ (c + n) is at most the number times 10 ^ x
  have b1 : 10 ^ (c + n) ≤ 2 ^ 55 * (2 ^ up * 10 ^ x) := by
    have : 1 * 10 ^ (c + n) ≤ 2 ^ down * 10 ^ (c + n) := Nat.mul_le_mul_right _ (Nat.two_pow_pos down)
    have h4 : 4 * f * (2 ^ up * 10 ^ x) ≤ 2 ^ 55 * (2 ^ up * 10 ^ x) := Nat.mul_le_mul_right _ (by omega)
    omega
  rcases Nat.le_total (c + n) x with k | k
  · omega
  · obtain ⟨t, ht⟩ := Nat.exists_eq_add_of_le k
    rw [ht, Nat.pow_add, Nat.mul_comm (10 ^ x), ← Nat.mul_assoc] at b1
    have b2 := Nat.le_of_mul_le_mul_right b1 (ten_pos x)
    rw [← Nat.pow_add] at b2
    have b3 := Nat.le_trans (ten_pow t) b2
    have b4 : 3 * t ≤ 55 + up := by
      rcases Nat.lt_or_ge (55 + up) (3 * t) with q | q
      · have := Nat.pow_lt_pow_right (a := 2) (by decide) q
        omega
      · exact q
    omega

theorem layT_len (D : List UInt8) (x : Int) (hD : D.length ≤ 100) (h1 : -500 ≤ x) (h2 : x ≤ 500) : (layT D x).length ≤ 200 := by
  have hd := dotT_len D 1
  unfold layT
  split
  · have := dec_len (n := (-x).toNat) (by omega)
    simp only [List.length_append, List.length_cons, List.length_nil]; omega
  · split
    · have := dec_len (n := x.toNat) (by omega)
      simp only [List.length_append, List.length_cons, List.length_nil]; omega
    · split
      · simp only [List.length_append, List.length_cons, List.length_nil, List.length_replicate]; omega
      · split
        · simp only [List.length_append, List.length_replicate]; omega
        · have := dotT_len D (x + 1).toNat; omega
theorem eQ_bd {P : Int} {m Q : Nat} (h1 : -400 ≤ P) (h2 : P ≤ 400) : -500 ≤ eQ P m Q ∧ eQ P m Q ≤ 500 := by unfold eQ; split <;> omega

set_option maxHeartbeats 1000000 in
theorem print_any (a : Int) (L : List UInt8) (w : World) (ha : U64 a) (hL : PrS a L) (hT : TB w) :
    Calls Tryd.prog 6 #[.int .u64 a] w fun e w' => e = .returned (.string (bs L)) ∧ Below w.heap.size w w' := by
  have HPa : Hid (∀ w, Calls Tryd.prog 9 #[.int .u64 a] w fun e w' => e = .returned (.tuple #[.bool (belowB a), .int .i64 (pexp a), .int .u64 (pfrac a)]) ∧ w' = w) := fun w => parts_any a w ha
  have HKi : Hid (∀ w, Calls Tryd.prog 10 #[.int .u64 a] w fun e w' => e = .returned (.int .i64 (kindZ a)) ∧ w' = w) := fun w => kind_any a w ha
  obtain ⟨sg, hsg⟩ : ∃ s, bs (sgT a) = s := ⟨_, rfl⟩
  have hss : sg.size ≤ 1 := by rw [← hsg, bs_size]; unfold sgT; split <;> decide
  have HSG : Hid (sg = if belowB a then ⟨#[45]⟩ else ⟨#[]⟩) := by show _ = _; rw [← hsg]; unfold sgT; split <;> rfl
  have HT : Hid (TB w) := hT
  clear hT
  rcases hL with ⟨hk, rfl⟩ | ⟨hk, rfl⟩ | ⟨hk, rfl⟩ | ⟨hk, f, d, up, down, x, c, n, m, Q, place, h1, h2, h3, hp, rfl⟩
  · rw [hk] at HKi
    show Calls Tryd.prog 6 #[.int .u64 a] w fun e w' => e = .returned (.string ⟨#[110, 97, 110]⟩) ∧ Below w.heap.size w w'
    generalize belowB a = nb at *
    cases nb
    all_goals
      go_enter Tryd.func6, Tryd.ntmps6
      go_wp2_with fail
      refine (HPa.out _).mono ?_
      rintro e w' ⟨rfl, hw⟩
      rw [hw]
      clear hw w'
      go_wp2_with fail
      refine (HKi.out _).mono ?_
      rintro e w' ⟨rfl, hw⟩
      rw [hw]
      clear hw w'
      go_wp2
      go_ret
      exact ⟨rfl, Below.refl _ _⟩
  · rw [hk] at HKi
    rw [← bs_append, hsg, show bs [105, 110, 102] = ⟨#[105, 110, 102]⟩ from rfl]
    generalize belowB a = nb at *
    cases nb
    all_goals
      go_enter Tryd.func6, Tryd.ntmps6
      go_wp2_with fail
      refine (HPa.out _).mono ?_
      rintro e w' ⟨rfl, hw⟩
      rw [hw]
      clear hw w'
      go_wp2_with fail
      refine (HKi.out _).mono ?_
      rintro e w' ⟨rfl, hw⟩
      rw [hw]
      clear hw w'
      go_wp2
      go_ret
      exact ⟨by rw [HSG.out]; rfl, Below.refl _ _⟩
  · rw [hk] at HKi
    rw [← bs_append, hsg, show bs [48] = ⟨#[48]⟩ from rfl]
    generalize belowB a = nb at *
    cases nb
    all_goals
      go_enter Tryd.func6, Tryd.ntmps6
      go_wp2_with fail
      refine (HPa.out _).mono ?_
      rintro e w' ⟨rfl, hw⟩
      rw [hw]
      clear hw w'
      go_wp2_with fail
      refine (HKi.out _).mono ?_
      rintro e w' ⟨rfl, hw⟩
      rw [hw]
      clear hw w'
      go_wp2
      go_ret
      exact ⟨by rw [HSG.out]; rfl, Below.refl _ _⟩
  · have hlen := tQ_len hp
    have hpl := pm_place hp
    have heq := eQ_bd (m := m) (Q := Q) hpl.1 hpl.2
    have HS : Hid (∀ w, Calls Tryd.prog 11 #[.int .i64 (pexp a), .int .u64 (pfrac a)] w fun e w' => e = .returned (.tuple #[.string (bs (tQ Q)), .int .i64 (eQ (place + n) m Q)]) ∧ Below w.heap.size w w') := fun w => by rw [h1, h2]; exact shortest_any hp w
    have HLa : Hid (∀ w, TB w → Calls Tryd.prog 12 #[.string (bs (tQ Q)), .int .i64 (eQ (place + n) m Q)] w fun e w' => e = .returned (.string (bs (layT (tQ Q) (eQ (place + n) m Q)))) ∧ Below w.heap.size w w') := fun w h => laidOut_any _ _ w hlen.1 (by omega) heq.1 heq.2 h
    have hz : (bs (layT (tQ Q) (eQ (place + n) m Q))).size ≤ 200 := by rw [bs_size]; exact layT_len _ _ (by omega) heq.1 heq.2
    rw [← bs_append, hsg]
    generalize bs (layT (tQ Q) (eQ (place + n) m Q)) = R at *
    generalize bs (tQ Q) = S at *
    generalize eQ (place + n) m Q = E at *
    generalize pexp a = pe at *
    generalize pfrac a = pf at *
    clear hp h1 h2 h3 hlen hpl heq hsg
    have hk0 : (kindZ a == 4) = false ∧ (kindZ a == 3) = false ∧ (kindZ a == 0) = false := by
      refine ⟨?_, ?_, ?_⟩ <;> (rw [beq_eq_false_iff_ne]; omega)
    obtain ⟨k4, k3, k0⟩ := hk0
    clear hk
    generalize kindZ a = kz at *
    generalize belowB a = nb at *
    cases nb
    all_goals
      go_enter Tryd.func6, Tryd.ntmps6
      go_wp2_with fail
      refine (HPa.out _).mono ?_
      rintro e w' ⟨rfl, hw⟩
      rw [hw]
      clear hw w'
      go_wp2_with fail
      refine (HKi.out _).mono ?_
      rintro e w' ⟨rfl, hw⟩
      rw [hw]
      clear hw w'
      go_wp2_with fail
      refine (HS.out _).mono ?_
      rintro e w1 ⟨rfl, hb1⟩
      go_wp2_with fail
      refine (HLa.out _ (HT.out.below hb1)).mono ?_
      rintro e w2 ⟨rfl, hb2⟩
      have HB : Hid (Below w.heap.size w w2) := hb1.trans (hb2.mono hb1.size)
      clear hb1 hb2
      go_wp2
      go_ret
      exact ⟨by rw [HSG.out]; rfl, HB.out⟩

end Go.Proofs.YtjbnjfdpfkdmeaaDoor

/-
  What is written of a number is read as it: the mathematics of DecBack.
-/
namespace Go.Proofs.YtjbnjfdpfkdmeaaDoor
set_option maxRecDepth 100000
open Go.RowKit Txt Flo

/-- Digits that count lie within seventeen. -/
def NZ (Z : List UInt8) : Prop := ∃ z : Nat, ∀ (j : Nat) (h : j < Z.length), Z[j] ≠ 48 → z ≤ j ∧ j < z + 17
theorem nz_of (a b : Nat) (D : List UInt8) (hD : D.length ≤ 17) : NZ (List.replicate a 48 ++ (D ++ List.replicate b 48)) := by
  refine ⟨a, fun j h hj => ?_⟩
  by_cases c1 : j < a
  · exfalso; apply hj
    rw [List.getElem_append_left (by rw [List.length_replicate]; exact c1), List.getElem_replicate]
  · by_cases c2 : j < a + D.length
    · omega
    · exfalso; apply hj
      rw [List.getElem_append_right (by rw [List.length_replicate]; omega), List.getElem_append_right (by rw [List.length_replicate]; omega), List.getElem_replicate]
theorem dv_zero_front (a : Nat) (L : List UInt8) : dv (List.replicate a 48 ++ L) 0 = dv L 0 := by
  rw [dv_append]
  have := dv_zeros [] a
  rw [List.nil_append] at this
  rw [this]
  show dv L (0 * 10 ^ a) = _
  rw [Nat.zero_mul]
theorem expo_sign {L : List UInt8} (hL : AllD L) (hL0 : L ≠ []) (neg : Bool) : Txt.expo (101 :: (if neg then 45 else 43) :: L) = some (if neg then -(dv L 0 : Int) else dv L 0) := by
  have h2 := dig_app (X := []) hL (Or.inl rfl)
  rw [List.append_nil] at h2
  have hD : ∀ ng, expD ng L = some (if ng then -(dv L 0 : Int) else dv L 0) := by
    intro ng
    unfold expD
    rw [h2.1, h2.2, if_neg hL0, if_pos rfl]
  rw [expo_cons, if_pos (Or.inl (show (101 : UInt8).toNat = 101 from rfl)), expS_cons]
  cases neg
  · show (if (43 : UInt8).toNat = 45 then expD true L else if (43 : UInt8).toNat = 43 then expD false L else expD false (43 :: L)) = _
    rw [if_neg (by decide), if_pos (show (43 : UInt8).toNat = 43 from rfl)]; exact hD false
  · show (if (45 : UInt8).toNat = 45 then expD true L else if (45 : UInt8).toNat = 43 then expD false L else expD false (45 :: L)) = _
    rw [if_pos (show (45 : UInt8).toNat = 45 from rfl)]; exact hD true
theorem numL_exp {S R : List UInt8} {e : Int} (hS : AllD S) (hS0 : S ≠ []) (hR : R = [] ∨ ∃ c r, R = c :: r ∧ isD c = false ∧ c.toNat ≠ 46) (he : Txt.expo R = some e) : numL (S ++ R) = some (S, e) := by
  have h1 := dig_app (X := R) hS (by rcases hR with h | ⟨c, r, h1, h2, _⟩; exact Or.inl h; exact Or.inr ⟨c, r, h1, h2⟩)
  unfold numL
  rw [h1.1, h1.2, if_neg hS0]
  rcases hR with rfl | ⟨c, r, rfl, _, h3⟩
  · have e0 : e = 0 := (Option.some.inj he).symm
    rw [e0]
  · show (if c.toNat = 46 then _ else _) = _
    rw [if_neg h3, he]; rfl
theorem numL_dotT {D R : List UInt8} {k : Nat} {e : Int} (hD : AllD D) (hk1 : 1 ≤ k) (hk2 : k ≤ D.length) (hR : R = [] ∨ ∃ c r, R = c :: r ∧ isD c = false ∧ c.toNat ≠ 46) (he : Txt.expo R = some e) : numL (dotT D k ++ R) = some (D, e - ((D.length - k : Nat) : Int)) := by
  have hD0 : D ≠ [] := by intro h; subst h; simp at hk2; omega
  unfold dotT
  split
  · next h =>
    rw [numL_exp hD hD0 hR he, h, Nat.sub_self]; simp
  · next h =>
    have hT : AllD (D.take k) := fun c hc => hD c (List.mem_of_mem_take hc)
    have hU : AllD (D.drop k) := fun c hc => hD c (List.mem_of_mem_drop hc)
    have hT0 : D.take k ≠ [] := by intro e; have := congrArg List.length e; rw [List.length_take, List.length_nil] at this; omega
    have hU0 : D.drop k ≠ [] := by intro e; have := congrArg List.length e; rw [List.length_drop, List.length_nil] at this; omega
    have := numL_dot (R := R) hT hT0 hU hU0 (by rcases hR with h | ⟨c, r, h1, h2, _⟩; exact Or.inl h; exact Or.inr ⟨c, r, h1, h2⟩) he
    rw [List.append_assoc, List.cons_append, this, List.take_append_drop, List.length_drop]
/-- What is read of digits that were laid out. -/
theorem lay_read {D : List UInt8} {E : Int} (hD : AllD D) (h1 : 1 ≤ D.length) (h2 : D.length ≤ 17) (e1 : -500 ≤ E) (e2 : E ≤ 500) :
    ∃ Z x, numL (layT D E) = some (Z, x) ∧ decN (dv Z 0) x = decN (dv D 0) (E + 1 - D.length) ∧ NZ Z ∧ Z.length ≤ 100 := by
  have hD0 : D ≠ [] := by intro h; subst h; simp at h1
  have nzD : NZ D := by have := nz_of 0 0 D h2; simpa using this
  unfold layT
  by_cases c1 : E < -7
  · rw [if_pos c1]
    obtain ⟨s1, s2, s3⟩ := dec_spec (-E).toNat
    have he := expo_sign s2 s3 true
    rw [s1] at he
    have := numL_dotT (R := 101 :: 45 :: Lib.decDigits (-E).toNat) (k := 1) hD (by decide) h1 (Or.inr ⟨101, _, rfl, rfl, by decide⟩) he
    refine ⟨D, _, this, ?_, nzD, by omega⟩
    congr 1
    simp only [if_true]
    omega
  · rw [if_neg c1]
    by_cases c2 : 20 < E
    · rw [if_pos c2]
      obtain ⟨s1, s2, s3⟩ := dec_spec E.toNat
      have he := expo_sign s2 s3 false
      rw [s1] at he
      have := numL_dotT (R := 101 :: 43 :: Lib.decDigits E.toNat) (k := 1) hD (by decide) h1 (Or.inr ⟨101, _, rfl, rfl, by decide⟩) he
      refine ⟨D, _, this, ?_, nzD, by omega⟩
      congr 1
      simp only [Bool.false_eq_true, if_false]
      omega
    · rw [if_neg c2]
      by_cases c3 : E < 0
      · rw [if_pos c3]
        have hz := allD_zeros (-E - 1).toNat
        have := numL_dot (S := [48]) (U := List.replicate (-E - 1).toNat 48 ++ D) (R := []) (e := 0) (by intro c hc; rw [List.mem_singleton.1 hc]; rfl) (by simp) (allD_app hz hD) (by simp [hD0]) (Or.inl rfl) rfl
        rw [List.append_nil] at this
        refine ⟨_, _, this, ?_, ?_, ?_⟩
        · have e0 : [48] ++ (List.replicate (-E - 1).toNat 48 ++ D) = List.replicate ((-E - 1).toNat + 1) 48 ++ D := by rw [List.replicate_succ]; rfl
          rw [e0, dv_zero_front, List.length_append, List.length_replicate]
          congr 1; omega
        · have e0 : [48] ++ (List.replicate (-E - 1).toNat 48 ++ D) = List.replicate ((-E - 1).toNat + 1) 48 ++ (D ++ List.replicate 0 48) := by rw [List.replicate_succ]; simp
          rw [e0]; exact nz_of _ _ D h2
        · simp only [List.length_append, List.length_cons, List.length_nil, List.length_replicate]; omega
      · rw [if_neg c3]
        by_cases c4 : (D.length : Int) < E + 1
        · rw [if_pos c4]
          have hA : AllD (D ++ List.replicate (E + 1 - D.length).toNat 48) := allD_app hD (allD_zeros _)
          have := numL_exp (S := D ++ List.replicate (E + 1 - D.length).toNat 48) (R := []) (e := 0) hA (by simp [hD0]) (Or.inl rfl) rfl
          rw [List.append_nil] at this
          refine ⟨_, _, this, ?_, ?_, ?_⟩
          · rw [dv_zeros, decN_pair (dv D 0 * 10 ^ (E + 1 - D.length).toNat) 0 0 0 rfl, decN_pair (dv D 0) (E + 1 - D.length).toNat 0 (E + 1 - D.length) (by omega)]
            simp
          · have := nz_of 0 (E + 1 - D.length).toNat D h2
            simpa using this
          · simp only [List.length_append, List.length_replicate]; omega
        · rw [if_neg c4]
          have := numL_dotT (R := []) (k := (E + 1).toNat) (e := 0) hD (by omega) (by omega) (Or.inl rfl) rfl
          rw [List.append_nil] at this
          refine ⟨D, _, this, ?_, nzD, by omega⟩
          congr 1; omega
theorem allD_trim : ∀ (n : Nat) (l : List UInt8), l.length = n → AllD l → AllD (trimL l) := by
  intro n
  induction n with
  | zero =>
    intro l h hA
    rw [trimL_eq, if_neg (by omega)]; exact hA
  | succ n ih =>
    intro l h hA
    rw [trimL_eq]
    split
    · exact ih _ (by simp [h]) (fun c hc => hA c ((List.dropLast_sublist l).subset hc))
    · exact hA
/-- What was told is read as the number. -/
theorem pm_read {f d up down x c n m Q : Nat} {place : Int} (h : Pm f d up down x c n m Q place) : decN Q (place + n - m) = d * 4503599627370496 + f := by
  obtain ⟨ex, hx⟩ : ∃ u : Nat, (u : Int) = max ((d : Int) - 1074) 0 := ⟨(max ((d : Int) - 1074) 0).toNat, by omega⟩
  obtain ⟨ey, hy⟩ : ∃ u : Nat, (u : Int) = max (-((d : Int) - 1074)) 0 := ⟨(max (-((d : Int) - 1074)) 0).toNat, by omega⟩
  obtain ⟨s1, _, _⟩ := pm_step h hx hy m ((m : Int) - (place + n)) rfl _ _ _ rfl rfl rfl _ _ rfl rfl
  rw [h.at'] at s1
  rw [show place + n - m = -((m : Int) - (place + n)) by omega]
  split at s1
  · next k =>
    obtain rfl := Option.some.inj s1
    have := (Bool.and_eq_true _ _ ▸ k).1
    exact of_decide_eq_true this
  · split at s1
    · next k =>
      obtain rfl := Option.some.inj s1
      have := (Bool.and_eq_true _ _ ▸ k).2
      exact of_decide_eq_true this
    · cases s1
theorem pm_told {f d up down x c n m Q : Nat} {place : Int} (h : Pm f d up down x c n m Q place) :
    AllD (tQ Q) ∧ (tQ Q).length ≤ 17 ∧ decN (dv (tQ Q) 0) (eQ (place + n) m Q + 1 - (tQ Q).length) = d * 4503599627370496 + f := by
  obtain ⟨DS, g1, g2, g3⟩ := digF_run _ _ (pm_U h) m 20 _ _ _ Q (by have := h.m16; omega) h.go h.at'
  have htop := digF_top (pm_U h) h.lo h.hi g1
  have htold := told_digits g2 g3 htop
  have hr := pm_read h
  have hm := h.m16
  have hA : AllD (tQ Q) := allD_trim _ _ rfl (dec_spec Q).2.1
  refine ⟨hA, ?_⟩
  rcases htold with ⟨_, rfl, rfl⟩ | ⟨t1, t2, t3⟩
  · have e1 : tQ 10 = [49] := trim_ten
    have e2 : eQ (place + n) 0 10 = place + n + 1 := by unfold eQ; rw [if_pos (by decide)]
    rw [e1, e2]
    refine ⟨by decide, ?_⟩
    rw [← hr]
    have p1 : dv [49] 0 = 1 := by decide
    rw [p1]
    have hP := pm_P h
    rw [decN_pair 1 (c + n + 1) x _ (by show _ = _; simp only [List.length_cons, List.length_nil]; omega), decN_pair 10 (c + n) x _ (by omega), Nat.one_mul, Nat.pow_succ, Nat.mul_comm]
  · have e1 : tQ Q = dtx DS := t2
    have e2 : eQ (place + n) m Q = place + n := by unfold eQ; rw [if_neg (by omega), Int.add_zero]
    have hl : (tQ Q).length = m + 1 := by rw [e1]; unfold dtx; rw [List.length_map, g2]
    refine ⟨by omega, ?_⟩
    have hne : DS ≠ [10] := by
      intro e
      have := t1 10 (by rw [e]; simp)
      omega
    have hdv : dv (tQ Q) 0 = Q := by
      rcases htop with e | ⟨_, y, ys, hys, hy1⟩
      · exact absurd e hne
      · have := (dec_ofD ys.length y ys rfl (by rw [← hys]; exact t1) hy1).1
        rw [← hys, g3] at this
        rw [e1, ← this]
        exact (dec_spec Q).1
    rw [hdv, hl, e2, ← hr]
    congr 1; omega

end Go.Proofs.YtjbnjfdpfkdmeaaDoor

/-
  DecBack: the walk.
-/
namespace Go.Proofs.YtjbnjfdpfkdmeaaDoor
set_option maxRecDepth 100000
open Go.RowKit Txt Flo

theorem mag_facts {a : Int} (ha : U64 a) : U64 (mag a) ∧ kindZ (mag a) = kindZ a ∧ mag (mag a) = mag a ∧ belowB (mag a) = false := by
  obtain ⟨a1, a2⟩ := ha
  have hm : mag (mag a) = mag a := by unfold mag; split <;> (try split) <;> omega
  have hu : U64 (mag a) := by unfold mag U64; split <;> omega
  have hk : kindZ (mag a) = kindZ a := by unfold kindZ; rw [hm]
  refine ⟨hu, hk, hm, ?_⟩
  unfold belowB mag
  rw [decide_eq_false_iff_not]
  split <;> omega
/-- What is written of a finite number without its sign is read as it. -/
theorem prs_read {g : Int} {L : List UInt8} (hm : mag g = g) (hb : belowB g = false) (hk : kindZ g < 3) (hL : PrS g L) :
    ∃ Z x, numL L = some (Z, x) ∧ ((decN (dv Z 0) x : Nat) : Int) = g ∧ NZ Z ∧ L.length ≤ 400 ∧ Z.length ≤ 100 := by
  have hs : sgT g = [] := by unfold sgT; rw [hb]; rfl
  rcases hL with ⟨h, _⟩ | ⟨h, _⟩ | ⟨h, rfl⟩ | ⟨h, f, d, up, down, x, c, n, m, Q, place, h1, h2, h3, hp, rfl⟩
  · omega
  · omega
  · rw [hs]
    refine ⟨[48], 0, by decide, ?_, ⟨0, fun j h hj => ?_⟩, by decide, by decide⟩
    · have hz := kind_zero g
      rw [h] at hz
      have hz2 : mag g = 0 := of_decide_eq_true hz.symm
      have e0 : dv [48] 0 = 0 := by decide
      rw [e0, decN_zero]
      omega
    · exfalso; apply hj
      have : j = 0 := by simp at h; exact h
      subst this; rfl
  · rw [hs, List.nil_append]
    obtain ⟨t1, t2, t3⟩ := pm_told hp
    have hl := tQ_len hp
    have hpl := pm_place hp
    have heq := eQ_bd (m := m) (Q := Q) hpl.1 hpl.2
    obtain ⟨Z, y, r1, r2, r3, r4⟩ := lay_read t1 hl.1 t2 heq.1 heq.2
    refine ⟨Z, y, r1, ?_, r3, ?_, r4⟩
    · rw [r2, t3, ← h3, hm]
    · have := layT_len (tQ Q) (eQ (place + n) m Q) (by omega) heq.1 heq.2
      omega

set_option maxHeartbeats 4000000 in
theorem decBack_walk (a : Int) (w : World) (ha : U64 a) (hT : TB w) :
    Calls Tryd.prog 3 #[.int .u64 a] w fun e w' => e = .returned (.bool true) ∧ Below w.heap.size w w' := by
  have HKi : Hid (∀ w, Calls Tryd.prog 4 #[.int .u64 a] w fun e w' => e = .returned (.int .i64 (kindZ a)) ∧ w' = w) := fun w => refKind_any a w ha
  by_cases hk : 3 ≤ kindZ a
  · go_enter Tryd.func3, Tryd.ntmps3
    go_wp2_with fail
    refine (HKi.out _).mono ?_
    rintro e w' ⟨rfl, hw⟩
    rw [hw]
    clear hw w'
    go_wp2_with fail
    refine (decLives_any w).mono ?_
    rintro e w3 ⟨rfl, hb3⟩
    have HB3 : Hid (Below w.heap.size w w3) := hb3
    clear hb3
    go_wp2
    go_ret
    exact ⟨rfl, HB3.out⟩
  · obtain ⟨g1, g2, g3, g4⟩ := mag_facts ha
    obtain ⟨L, hL⟩ := prs_exists g1
    obtain ⟨Z, x, r1, r2, r3, r4, r5⟩ := prs_read g3 g4 (by omega) hL
    have H1 : Hid (∀ w, TB w → Calls Tryd.prog 6 #[.int .u64 (mag a)] w fun e w' => e = .returned (.string (bs L)) ∧ Below w.heap.size w w') := fun w h => print_any (mag a) L w g1 hL h
    have H2 : Hid (∀ w, Calls Tryd.prog 7 #[.string (bs L)] w fun e w' => e = .returned (.tuple #[.int .u64 (mag a), .int .i64 0]) ∧ Below w.heap.size w w') := fun w => by
      have := parse_any L w (by unfold maxLen; omega)
      rw [parseW_some r4 r1] at this
      rw [← r2]
      exact this
    have H3 : Hid (∀ w, Calls Tryd.prog 8 #[.string (bs L)] w fun e w' => (∃ x : Int, e = .returned (.tuple #[.agg #[.string (bs Z), .int .i64 x], .bool true])) ∧ Below w.heap.size w w') := fun w => by
      refine (refRead_any L w r4).mono ?_
      rintro e w' ⟨hb, ⟨hn, _⟩ | ⟨D, E, y, hn, _, _, _, he⟩⟩
      · rw [r1] at hn; cases hn
      · rw [r1] at hn
        obtain ⟨rfl, rfl⟩ := Prod.mk.inj (Option.some.inj hn)
        exact ⟨⟨y, he⟩, hb⟩
    have han := andNot_sign a ha
    have HG : Hid (∀ k (h : k < (bs Z).size) (h2 : k < Z.length), (bs Z)[k]'h = Z[k]) := fun k h _ => bs_get Z k h
    have HNZ : Hid (NZ Z) := r3
    have hzs : (bs Z).size = Z.length := bs_size Z
    have HZL : Hid (Z.length = (bs Z).size) := hzs.symm
    have HT : Hid (TB w) := hT
    rw [← hzs] at r5
    generalize bs L = s at *
    generalize bs Z = zs at *
    generalize mag a = mg at *
    generalize kindZ a = kz at *
    clear g1 g2 g3 g4 hL r1 r2 r3 r4 hzs hT ha
    have hk3 : kz < 3 := by omega
    clear hk
    go_enter Tryd.func3, Tryd.ntmps3
    go_wp2_with fail
    refine (HKi.out _).mono ?_
    rintro e w' ⟨rfl, hw⟩
    rw [hw]
    clear hw w'
    go_wp2_with fail
    refine (H1.out _ HT.out).mono ?_
    rintro e w1 ⟨rfl, hb1⟩
    go_wp2_with fail
    refine (H2.out _).mono ?_
    rintro e w2 ⟨rfl, hb2⟩
    have hB2 := hb1.trans (hb2.mono hb1.size)
    clear hb1 hb2
    go_wp2_with fail
    refine (H3.out _).mono ?_
    rintro e w3 ⟨⟨y, rfl⟩, hb3⟩
    have hB3 := hB2.trans (hb3.mono hB2.size)
    have HB4 : Hid (Below w.heap.size w (w3.alloc (.cells #[.string zs, .int .i64 y] 31))) := hB3.alloc hB3.size _
    clear hb3 hB2 hB3
    go_wp2_with fail
    go_quiet (fail)
    have HB5 : Hid (Below w.heap.size w ((w3.alloc (.cells #[.string zs, .int .i64 y] 31)).drewN nq)) := below_drewN HB4.out nq
    go_wp2_with fail
    go_loop [8] (fun t8 => ∃ k : Nat, k ≤ zs.size ∧ t8 = .int .i64 k) (fun t8 => zs.size - (intOf t8).toNat)
    case atStart => exact ⟨0, Nat.zero_le _, rfl⟩
    case round =>
      obtain ⟨k, hk, rfl⟩ := hrel
      by_cases hgo : ∃ h : k < zs.size, zs[k] = 48
      · obtain ⟨hlt, hc⟩ := hgo
        have cb : (((zs[k].toNat : Nat) : Int) == 48) = true := by rw [hc]; rfl
        have i1 : (k : Int) < (zs.size : Int) := by omega
        clear hc
        go_wp2
        go_round
        case rel => exact ⟨k + 1, hlt, by go_num⟩
        case measure => simp [intOf]; omega
      · have HX : Hid (k < zs.size → ∃ h : k < zs.size, zs[k] ≠ 48) := fun h => ⟨h, fun e => hgo ⟨h, e⟩⟩
        by_cases hlt : k < zs.size
        · have cb : (((zs[k].toNat : Nat) : Int) == 48) = false := by
            rw [beq_eq_false_iff_ne]
            intro e
            apply hgo
            refine ⟨hlt, UInt8.toNat_inj.1 ?_⟩
            show zs[k].toNat = 48
            omega
          have i0 : (k : Int) < (zs.size : Int) := by omega
          clear hgo
          go_wp2_with fail
          go_loop [9] (fun t9 => ∃ j : Nat, k ≤ j ∧ j ≤ zs.size ∧ t9 = .int .i64 j) (fun t9 => (intOf t9).toNat)
          case atStart => exact ⟨zs.size, hk, Nat.le_refl _, rfl⟩
          case round =>
            obtain ⟨j, hj1, hj2, rfl⟩ := hrel
            by_cases hgo : ∃ h : k < j, zs[j - 1]'(by omega) = 48
            · obtain ⟨hlt, hc⟩ := hgo
              obtain ⟨i, rfl⟩ : ∃ i, j = i + 1 := ⟨j - 1, by omega⟩
              have hi : i < zs.size := by omega
              have hc' : zs[i] = 48 := hc
              have cb : (((zs[i].toNat : Nat) : Int) == 48) = true := by rw [hc']; rfl
              have i1 : (k : Int) < ((i + 1 : Nat) : Int) := by omega
              have i2 : ((i + 1 : Nat) : Int) - 1 = (i : Int) := by omega
              clear hc hc'
              go_wp2
              go_round
              case rel => exact ⟨i, by omega, by omega, by go_num⟩
              case measure => simp [intOf]
            · have H17 : Hid ((j : Int) - (k : Int) ≤ 17) := by
                show _ ≤ _
                by_cases q : k < j
                · have q1 : zs[j - 1]'(by omega) ≠ 48 := fun e => hgo ⟨q, e⟩
                  obtain ⟨q2, q3⟩ := HX.out (by omega)
                  obtain ⟨z, hz⟩ := HNZ.out
                  have hzl := HZL.out
                  have r1 := hz k (by omega) (by rw [← HG.out k (by omega) (by omega)]; exact q3)
                  have r2 := hz (j - 1) (by omega) (by rw [← HG.out (j - 1) (by omega) (by omega)]; exact q1)
                  omega
                · omega
              have h17 := H17.out
              by_cases q : k < j
              · obtain ⟨i, rfl⟩ : ∃ i, j = i + 1 := ⟨j - 1, by omega⟩
                have hi : i < zs.size := by omega
                have cb : (((zs[i].toNat : Nat) : Int) == 48) = false := by
                  rw [beq_eq_false_iff_ne]
                  intro e
                  apply hgo
                  refine ⟨q, UInt8.toNat_inj.1 ?_⟩
                  show zs[i].toNat = 48
                  omega
                have i1 : (k : Int) < ((i + 1 : Nat) : Int) := by omega
                have i2 : ((i + 1 : Nat) : Int) - 1 = (i : Int) := by omega
                clear hgo
                go_wp2_with fail
                refine (decLives_any _).mono ?_
                rintro e w9 ⟨rfl, hb9⟩
                have HB9 : Hid (Below w.heap.size w w9) := HB5.out.trans (hb9.mono HB5.out.size)
                clear hb9
                go_wp2
                go_ret
                exact ⟨rfl, HB9.out⟩
              · have i1 : ¬ (k : Int) < (j : Int) := by omega
                clear hgo
                go_wp2_with fail
                refine (decLives_any _).mono ?_
                rintro e w9 ⟨rfl, hb9⟩
                have HB9 : Hid (Below w.heap.size w w9) := HB5.out.trans (hb9.mono HB5.out.size)
                clear hb9
                go_wp2
                go_ret
                exact ⟨rfl, HB9.out⟩
        · have i0 : ¬ (k : Int) < (zs.size : Int) := by omega
          clear hgo HX
          go_wp2_with fail
          go_loop [9] (fun t9 => ∃ j : Nat, k ≤ j ∧ j ≤ zs.size ∧ t9 = .int .i64 j) (fun t9 => (intOf t9).toNat)
          case atStart => exact ⟨zs.size, hk, Nat.le_refl _, rfl⟩
          case round =>
            obtain ⟨j, hj1, hj2, rfl⟩ := hrel
            have hjk : j = k := by omega
            subst hjk
            have i1 : ¬ (j : Int) < (j : Int) := by omega
            go_wp2_with fail
            refine (decLives_any _).mono ?_
            rintro e w9 ⟨rfl, hb9⟩
            have HB9 : Hid (Below w.heap.size w w9) := HB5.out.trans (hb9.mono HB5.out.size)
            clear hb9
            go_wp2
            go_ret
            exact ⟨rfl, HB9.out⟩

end Go.Proofs.YtjbnjfdpfkdmeaaDoor

/-
  For every number: what Print writes of it without its sign is read as it, and has at most seventeen digits that count: the statement DecBack, with no condition.
-/
namespace Go.Proofs.YtjbnjfdpfkdmeaaDoor.decBack
set_option maxRecDepth 100000
open Go.ChangeShapes Go.WideShapes Go.ChangeAt Go.RowKit

theorem contract (H : Type) (enc : TypeId × Value → H) (W : World) (base : Nat) (args : Array Value) (ds gs : List (DataW H)) (before : List MemPlace)
    (hval0 : ∀ (j : Nat) t v, Tryd.f3.params[j]? = some t → args[j]? = some v → Value.okWide Tryd.prog W .any base t v)
    (hW : DataW.Whole enc Tryd.prog Tryd.f3.params.toList Rows.decBackSpec.vars false W args.toList ds gs before) (hL : laidMetH Tryd.prog laidPow W)
    (hsz : (DataW.weightsEach Tryd.prog (Tryd.f3.params.toList ++ (OpenSpec.ofChange Rows.decBackSpec).bare.plain.varTypes Tryd.prog) (ds ++ gs)).all (· ≤ reachBytes) = true) :
    Calls Tryd.prog 3 args W fun e W' => ∃ v, e = .returned v ∧ Rows.decBackSpec.post enc Tryd.prog Tryd.f3 false true false false W args v W' := by
  have hval : ∀ (j : Nat) t v, Tryd.f3.params[j]? = some t → args[j]? = some v → Value.okWide Tryd.prog W .any base t v := hval0
  have hW' := hW
  obtain ⟨p, q, hA0, hV, rfl, hfz, hnd⟩ := hW
  have hA : DataW.TrodAll enc Tryd.prog W 0 (fun _ => true) true Tryd.f3.params.toList args.toList ds p := hA0
  rw [Tryd.params3] at hA hval hsz
  obtain ⟨v0, vs0, d0, ds0, p0, q0, hargs, rfl, rfl, h0, r0⟩ := trodAll_cons hA
  obtain ⟨rfl, rfl, rfl⟩ := trodAll_nil r0
  obtain rfl : args = #[v0] := by cases args; simp_all
  obtain ⟨rfl, rfl⟩ := trodVars_none hV
  have lt0 : ∀ x ∈ p0, x.block < W.heap.size := by obtain ⟨m, hm⟩ := h0; exact DataW.trod_lt m _ _ _ hm
  obtain ⟨n0, rfl, u0⟩ := open_num (hval 0 23 v0 rfl rfl)
  have hT := powTab hL
  clear hA0 hval0
  refine (decBack_walk n0 W u0 hT).mono fun e W' ⟨he, bel⟩ => ?_
  subst he
  exact ⟨_, rfl, _, _, _, [], _, [], hW', trodAll_mk1 (shut_bool Tryd.underlying4 _), (trodAll_cons_mk (Below.trod laidOut (by kernel_rfl) (of_decide_eq_true (by kernel_rfl)) h0 bel lt0) trodAll_mk0), rfl, bel.frame _, fun h => by cases h⟩

theorem laid_met (os : Os) : laidMet Tryd.prog Rows.decBackRow.laid ((World.doorLaid Tryd.prog 4000 os).forCall (fun _ _ => 0) ⟨#[], #[.int .u64 0], []⟩).memory :=
  laidMet_of_run' 8 (by kernel_rfl) (by kernel_rfl)
theorem reads (os : Os) {H : Type} (enc : TypeId × Value → H) : ∃ places, DataW.whole enc Tryd.prog ((World.doorLaid Tryd.prog 4000 os).forCall (fun _ _ => 0) ⟨#[], #[.int .u64 0], []⟩).memory Tryd.f3.params.toList Rows.decBackSpec.vars false (#[.int .u64 0] : Array Value).toList 8 = some ([.lit (.int .u64 0)], [], places) :=
  ⟨[], by kernel_rfl⟩

set_option maxRecDepth 100000 in
theorem lifted (os : Os) (started : os.Started) (H : Type) (enc : TypeId × Value → H) (F : Stop.Interp) :
    ReturnsInHanded {} Tryd.checked os 3 .any ((OpenSpec.ofChange Rows.decBackSpec).preRow enc Tryd.prog Tryd.f3 Rows.decBackRow.domain false Rows.decBackRow.laid) (((OpenSpec.ofChange Rows.decBackSpec).at F).post enc Tryd.prog Tryd.f3 false true false false) := by
  obtain ⟨places, hx⟩ := reads os enc
  refine returnsInHanded_of_row (C := Tryd.checked) (s := OpenSpec.ofChange Rows.decBackSpec) ownKnob_none started (by kernel_rfl) Tryd.func3
    (witness_row_at (enc := enc) (C := Tryd.checked) false (World.doorLaid Tryd.prog 4000 os) #[.int .u64 0] rfl (by kernel_rfl) (by kernel_rfl) (by kernel_rfl)
      (OpenSpec.preRow_of_cond 8 hx (by kernel_rfl) (fun k hk => by cases hk) (by kernel_rfl) (laid_met os))) ?_
  intro W base args ds gs before hval hW _ _ hsz hL _ _
  exact contract H enc W base args ds gs before hval hW hL hsz

theorem said : Rows.DecBackSaid :=
  OpenClaim.holds_of_cond 3 Tryd.f3 rfl rfl rfl rfl rfl rfl rfl ⟨rfl, rfl, rfl, rfl, rfl⟩ rfl rfl rfl rfl rfl (by kernel_rfl) Tryd.func3 (by kernel_rfl)
    (of_decide_eq_true (by kernel_rfl)) (by unfold Func.isWrapper; first | (rw [if_pos (by decide +kernel)]; kernel_rfl) | (rw [if_neg (by decide +kernel)]; exact ⟨rfl, rfl⟩))
    (fun os started H enc _ F => by rw [OpenClaim.pre_eq_preRow]; exact lifted os started H enc F)

theorem plain (f : FuncId) (fn : Func) (hf : Tryd.pinned.checked.prog.funcNamed "minstrel/minstrellaw05.DecBack" = some f) (hfn : Tryd.pinned.checked.prog.funcs[f]? = some fn) :
    false = Tryd.pinned.checked.prog.looks [] ∧ ∀ (j : Nat) t, fn.params[j]? = some t → Tryd.pinned.checked.prog.wantsStandIn t = false := by
  obtain rfl : f = 3 := Option.some.inj ((show Tryd.prog.funcNamed "minstrel/minstrellaw05.DecBack" = some 3 by kernel_rfl).symm.trans hf) |>.symm
  obtain rfl : fn = Tryd.f3 := (Option.some.inj (Tryd.func3.symm.trans hfn)).symm
  refine ⟨by kernel_rfl, fun j t ht => ?_⟩
  rw [Tryd.params3] at ht
  have hm : t ∈ [23] := by simpa using Array.mem_of_getElem? ht
  have hall : ([23].all fun u => !Tryd.prog.wantsStandIn u) = true := by kernel_rfl
  exact (show Tryd.prog.wantsStandIn t = false by simpa using List.all_eq_true.1 hall t hm)

/-- The statement. -/
theorem proved : Rows.DecBackCardSaid :=
  Claim7.holds_tied_plain_at .later [] _ _ _ _ said (fun _ h => by cases h) (by kernel_rfl) (fun _ h => by cases h) decBack_row_tie rfl ⟨rfl, rfl⟩ (by kernel_rfl) rfl plain (by kernel_rfl)
end Go.Proofs.YtjbnjfdpfkdmeaaDoor.decBack
