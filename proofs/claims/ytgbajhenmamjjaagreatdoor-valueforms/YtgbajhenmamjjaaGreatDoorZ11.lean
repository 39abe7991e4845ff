/-
  DecText, DecRead, DecRead2, SumRef, SumRef2, DigNew
-/
import Derived.Test.YtgbajhenmamjjaaGreatDoorZ10

/-
  Texts: the landed cutDigits and the library's HasPrefix of one byte, walked.
-/
namespace Go.Proofs.YtgbajhenmamjjaaGreatDoor
set_option maxRecDepth 100000
open Go.RowKit Txt

theorem isD_true {c : UInt8} (h1 : 48 ≤ (c.toNat : Int)) (h2 : (c.toNat : Int) ≤ 57) : isD c = true := by unfold isD; simp; omega
theorem isD_false {c : UInt8} (h : (c.toNat : Int) < 48 ∨ 57 < (c.toNat : Int)) : isD c = false := by unfold isD; simp; omega

set_option maxHeartbeats 1000000 in
theorem cut_gen (s : ByteArray) (l : List UInt8) (w : World) (hl : l.length ≤ 1000000) (hsz : s.size = l.length)
    (HG : Hid (∀ k (h : k < s.size) (h2 : k < l.length), s[k] = l[k]))
    (HE : Hid (∀ k, k ≤ l.length → (∀ j (h : j < l.length), j < k → isD l[j] = true) → (∀ h : k < l.length, isD l[k] = false) → bs (Txt.dig l) = s.extract 0 k ∧ bs (rst l) = s.extract k s.size)) :
    Calls Tryz.prog 108 #[.string s] w fun e w' => e = .returned (.tuple #[.string (bs (Txt.dig l)), .string (bs (rst l))]) ∧ ∃ q, w' = w.drewN q := by
  have hs2 : s.size ≤ 1000000 := by omega
  have HS : Hid (s.size = l.length) := hsz
  clear hsz
  go_enter Tryz.func108, Tryz.ntmps108
  go_wp2_with fail
  go_loop [4] (fun t => ∃ k : Nat, k ≤ s.size ∧ t = .int .i64 k ∧ Hid (∀ j (h : j < l.length), j < k → isD l[j] = true)) (fun t => s.size - (intOf t).toNat)
  case atStart => exact ⟨0, Nat.zero_le _, rfl, fun j _ h => by omega⟩
  case round =>
    obtain ⟨k, hk, rfl, HI⟩ := hrel
    have HEnd : Hid ((∀ h : k < l.length, isD l[k] = false) → bs (Txt.dig l) = s.extract 0 k ∧ bs (rst l) = s.extract k s.size) := fun h => HE.out k (by have := HS.out; omega) HI.out h
    by_cases hlt : k < s.size
    · have hg := HG.out k hlt (by have := HS.out; omega)
      by_cases h48 : 48 ≤ (s[k].toNat : Int)
      · by_cases h57 : (s[k].toNat : Int) ≤ 57
        · have HN : Hid (∀ j (h : j < l.length), j < k + 1 → isD l[j] = true) := by
            intro j h hj
            by_cases e : j = k
            · subst e; rw [← hg]; exact isD_true h48 h57
            · exact HI.out j h (by omega)
          clear hg
          go_wp2
          go_round
          case rel => exact ⟨k + 1, by omega, by go_num, HN⟩
          case measure => simp [intOf]; omega
        · have HX : Hid (bs (Txt.dig l) = s.extract 0 k ∧ bs (rst l) = s.extract k s.size) := HEnd.out fun h => by rw [← hg]; exact isD_false (by omega)
          clear hg
          go_wp2_with fail
          go_quiet (fail)
          go_wp2
          go_ret2
          exact ⟨by rw [HX.out.1, HX.out.2]; rfl, _, rfl⟩
      · have HX : Hid (bs (Txt.dig l) = s.extract 0 k ∧ bs (rst l) = s.extract k s.size) := HEnd.out fun h => by rw [← hg]; exact isD_false (by omega)
        clear hg
        go_wp2_with fail
        go_quiet (fail)
        go_wp2
        go_ret2
        exact ⟨by rw [HX.out.1, HX.out.2]; rfl, _, rfl⟩
    · have HX : Hid (bs (Txt.dig l) = s.extract 0 k ∧ bs (rst l) = s.extract k s.size) := HEnd.out fun h => by have := HS.out; omega
      go_wp2_with fail
      go_quiet (fail)
      go_wp2
      go_ret2
      exact ⟨by rw [HX.out.1, HX.out.2]; rfl, _, rfl⟩

theorem cut_any (l : List UInt8) (w : World) (hl : l.length ≤ 1000000) :
    Calls Tryz.prog 108 #[.string (bs l)] w fun e w' => e = .returned (.tuple #[.string (bs (Txt.dig l)), .string (bs (rst l))]) ∧ ∃ q, w' = w.drewN q := by
  refine cut_gen (bs l) l w hl (bs_size l) (fun k h _ => bs_get l k h) ?_
  intro k hk h1 h2
  obtain ⟨e1, e2⟩ := span_of l k hk h1 h2
  unfold Txt.dig rst
  rw [bs_extract, bs_extract, e1, e2, bs_size]
  refine ⟨by simp, ?_⟩
  rw [List.take_of_length_le (by simp)]

/-- Whether a text begins with a byte. -/
def hp (c : UInt8) (l : List UInt8) : Bool := match l with | [] => false | a :: _ => a == c
theorem bs_toList (l : List UInt8) : (bs l).toList = l := by rw [Lib.toList_data, bs_list]
theorem eq_one (a c : UInt8) : ((bs [a]).toList == (bs [c]).toList) = (a == c) := by
  rw [bs_toList, bs_toList]; simp
set_option maxHeartbeats 400000 in
theorem prefLite_any (l : List UInt8) (c : UInt8) (w : World) (hl : l.length ≤ 1000000) :
    Calls Tryz.prog 102 #[.string (bs l), .string (bs [c])] w fun e w' => e = .returned (.bool (hp c l)) ∧ w' = w := by
  have h1 : (bs [c]).size = 1 := bs_size _
  cases l with
  | nil =>
    have h0 : (bs []).size = 0 := bs_size _
    unfold hp
    go_enter Tryz.func102, Tryz.ntmps102
    go_wp2
    go_ret
    exact ⟨rfl, rfl⟩
  | cons a r =>
    have h0 : (bs (a :: r)).size = r.length + 1 := bs_size _
    have HX : Hid ((bs (a :: r)).extract 0 1 = bs [a]) := by show _ = _; rw [bs_extract]; simp
    have h2 : r.length ≤ 1000000 := by simp at hl; omega
    show Calls Tryz.prog _ _ w fun e w' => e = .returned (.bool (a == c)) ∧ w' = w
    rw [← eq_one, ← HX.out]
    generalize bs (a :: r) = s at *
    generalize bs [c] = p at *
    clear HX hl
    go_enter Tryz.func102, Tryz.ntmps102
    go_wp2
    go_ret
    exact ⟨by first | rfl | (rw [h1]; rfl) | simp, rfl⟩
theorem pref_any (l : List UInt8) (c : UInt8) (w : World) (hl : l.length ≤ 1000000) :
    Calls Tryz.prog 73 #[.string (bs l), .string (bs [c])] w fun e w' => e = .returned (.bool (hp c l)) ∧ w' = w := by
  go_enter Tryz.func73, Tryz.ntmps73
  go_wp2_with (go_at_call 102; refine (prefLite_any l c _ hl).mono ?_; rintro e w' ⟨rfl, rfl⟩)
  go_ret
  exact ⟨rfl, rfl⟩

end Go.Proofs.YtgbajhenmamjjaaGreatDoor

/-
  The landed readExp, walked.
-/
namespace Go.Proofs.YtgbajhenmamjjaaGreatDoor
set_option maxRecDepth 100000
open Go.RowKit Txt

def cl (x : Int) : Int := max (min x 40000) (-40000)
def expV : Option Int → Value
  | none => .tuple #[.int .i64 0, .bool false]
  | some x => .tuple #[.int .i64 (cl x), .bool true]
theorem int_eq {k : IntKind} {a b : Int} (h : a = b) : Value.int k a = Value.int k b := by rw [h]
theorem ret_pair {a b : Int} {p q : Bool} (h : a = b) (h2 : p = q) : Ending.returned (.tuple #[.int .i64 a, .bool p]) = .returned (.tuple #[.int .i64 b, .bool q]) := by rw [h, h2]
theorem expV_none {neg : Bool} {t : List UInt8} (h : expD neg t = none) : expV (expD neg t) = .tuple #[.int .i64 0, .bool false] := by rw [h]; rfl
theorem emp_bs (l : List UInt8) : (bs l).toList.isEmpty = l.isEmpty := by rw [bs_toList]
theorem dv_take {D : List UInt8} {k : Nat} (h : k < D.length) : dv (D.take (k + 1)) 0 = dv (D.take k) 0 * 10 + (D[k].toNat - 48) := by
  rw [List.take_succ_eq_append_getElem h, dv_snoc]
theorem isD_get {D : List UInt8} (hD : AllD D) {k : Nat} (h : k < D.length) : 48 ≤ D[k].toNat ∧ D[k].toNat ≤ 57 := by
  have := hD D[k] (List.getElem_mem h)
  unfold isD at this
  simpa using this
theorem min_step {x n d : Nat} (h : x = min n 40000) : min (10 * x + d) 40000 = min (n * 10 + d) 40000 := by omega

set_option maxHeartbeats 4000000 in
theorem readExp_loop (s : ByteArray) (r t : List UInt8) (neg bm bp : Bool) (w : World) (hpos : 0 < s.size) (hsz : s.size ≤ 1000000) (hc : (s[0].toNat : Int) = 101 ∨ (s[0].toNat : Int) = 69) (hx1 : s.extract 1 s.size = bs r)
    (hcase : (neg = true ∧ bm = true ∧ 0 < (bs r).size ∧ (bs r).size ≤ 1000000 ∧ (bs r).extract 1 (bs r).size = bs t) ∨ (neg = false ∧ bm = false ∧ bp = true ∧ 0 < (bs r).size ∧ (bs r).size ≤ 1000000 ∧ (bs r).extract 1 (bs r).size = bs t) ∨ (neg = false ∧ bm = false ∧ bp = false ∧ r = t))
    (HPm : Hid (∀ w, Calls Tryz.prog 73 #[.string (bs r), .string ⟨#[45]⟩] w fun e w' => e = .returned (.bool bm) ∧ w' = w))
    (HPp : Hid (∀ w, Calls Tryz.prog 73 #[.string (bs r), .string ⟨#[43]⟩] w fun e w' => e = .returned (.bool bp) ∧ w' = w))
    (sD sR : ByteArray) (F : Nat → Nat) (V : Nat)
    (HCt : Hid (∀ w, Calls Tryz.prog 108 #[.string (bs t)] w fun e w' => e = .returned (.tuple #[.string sD, .string sR]) ∧ ∃ q, w' = w.drewN q))
    (he : sD.toList.isEmpty = false) (he2 : sR.toList.isEmpty = true)
    (HG : Hid (∀ k (h : k < sD.size), (48 ≤ (sD[k].toNat : Int) ∧ (sD[k].toNat : Int) ≤ 57) ∧ F (k + 1) = F k * 10 + (sD[k].toNat - 48)))
    (HN : Hid (F sD.size = V)) (HF0 : Hid (F 0 = 0)) (hsD : sD.size ≤ 1000000) :
    Calls Tryz.prog 109 #[.string s] w fun e w' => e = .returned (.tuple #[.int .i64 (cl (if neg then -(V : Int) else V)), .bool true]) ∧ ∃ q, w' = w.drewN q := by
  rcases hc with hc | hc <;> rcases hcase with ⟨rfl, rfl, hp1, hp2, hx2⟩ | ⟨rfl, rfl, rfl, hp1, hp2, hx2⟩ | ⟨rfl, rfl, rfl, rfl⟩
  all_goals
    go_enter Tryz.func109, Tryz.ntmps109
    go_wp2_with (first
      | (go_at_call 73; refine (HPm.out _).mono ?_; rintro e w' ⟨rfl, rfl⟩)
      | (go_at_call 73; refine (HPp.out _).mono ?_; rintro e w' ⟨rfl, rfl⟩)
      | (go_at_call 108; refine (HCt.out _).mono ?_; rintro e w' ⟨rfl, q, rfl⟩))
    go_loop [7, 41] (fun t7 t41 => ∃ (k x : Nat), k ≤ sD.size ∧ t41 = .int .i64 k ∧ t7 = .int .i64 x ∧ x ≤ 40000 ∧ Hid (x = min (F k) 40000)) (fun _ t41 => sD.size - (intOf t41).toNat)
    case atStart => exact ⟨0, 0, Nat.zero_le _, rfl, rfl, by omega, by show 0 = min (F 0) 40000; rw [HF0.out]; rfl⟩
    case round =>
      obtain ⟨k, x, hk, rfl, rfl, hx, HI⟩ := hrel
      by_cases hlt : k < sD.size
      · obtain ⟨⟨g1, g2⟩, g3⟩ := HG.out k hlt
        have HS : Hid (min (10 * x + (sD[k].toNat - 48)) 40000 = min (F (k + 1)) 40000) := by
          show _ = _
          rw [g3]; exact min_step HI.out
        clear g3
        go_wp2
        all_goals
          go_round
          case rel => exact ⟨k + 1, min (10 * x + (sD[k].toNat - 48)) 40000, by omega, by go_num, int_eq (by omega), by omega, HS.out⟩
          case measure => simp [intOf]; omega
      · have hke : k = sD.size := by omega
        have HX : Hid (x = min V 40000) := by
          have := HI.out
          rw [hke, HN.out] at this
          exact this
        go_wp2
        go_ret2
        exact ⟨ret_pair (by have := HX.out; unfold cl; omega) rfl, _, rfl⟩

set_option maxHeartbeats 4000000 in
theorem readExp_yes (s : ByteArray) (r t : List UInt8) (neg bm bp : Bool) (w : World) (hpos : 0 < s.size) (hsz : s.size ≤ 1000000) (hc : (s[0].toNat : Int) = 101 ∨ (s[0].toNat : Int) = 69) (hx1 : s.extract 1 s.size = bs r) (htl : t.length ≤ 1000000)
    (hcase : (neg = true ∧ bm = true ∧ 0 < (bs r).size ∧ (bs r).size ≤ 1000000 ∧ (bs r).extract 1 (bs r).size = bs t) ∨ (neg = false ∧ bm = false ∧ bp = true ∧ 0 < (bs r).size ∧ (bs r).size ≤ 1000000 ∧ (bs r).extract 1 (bs r).size = bs t) ∨ (neg = false ∧ bm = false ∧ bp = false ∧ r = t))
    (HPm : Hid (∀ w, Calls Tryz.prog 73 #[.string (bs r), .string ⟨#[45]⟩] w fun e w' => e = .returned (.bool bm) ∧ w' = w))
    (HPp : Hid (∀ w, Calls Tryz.prog 73 #[.string (bs r), .string ⟨#[43]⟩] w fun e w' => e = .returned (.bool bp) ∧ w' = w)) :
    Calls Tryz.prog 109 #[.string s] w fun e w' => e = .returned (expV (expD neg t)) ∧ ∃ q, w' = w.drewN q := by
  have HCt : Hid (∀ w, Calls Tryz.prog 108 #[.string (bs t)] w fun e w' => e = .returned (.tuple #[.string (bs (Txt.dig t)), .string (bs (rst t))]) ∧ ∃ q, w' = w.drewN q) := fun w => cut_any t w htl
  have he := emp_bs (Txt.dig t)
  have he2 := emp_bs (rst t)
  have hD : AllD (Txt.dig t) := allD_take t
  have hDl : (Txt.dig t).length ≤ 1000000 := by
    have := congrArg List.length (dig_rst t)
    rw [List.length_append] at this
    omega
  by_cases e1 : Txt.dig t = []
  · have hn : expD neg t = none := by unfold expD; rw [if_pos e1]
    rw [expV_none hn]
    rw [e1] at he HCt
    simp only [List.isEmpty_nil] at he
    clear hn e1 he2 hD hDl
    rcases hc with hc | hc <;> rcases hcase with ⟨rfl, rfl, hp1, hp2, hx2⟩ | ⟨rfl, rfl, rfl, hp1, hp2, hx2⟩ | ⟨rfl, rfl, rfl, rfl⟩
    all_goals
      go_enter Tryz.func109, Tryz.ntmps109
      go_wp2_with (first
        | (go_at_call 73; refine (HPm.out _).mono ?_; rintro e w' ⟨rfl, rfl⟩)
        | (go_at_call 73; refine (HPp.out _).mono ?_; rintro e w' ⟨rfl, rfl⟩)
        | (go_at_call 108; refine (HCt.out _).mono ?_; rintro e w' ⟨rfl, q, rfl⟩))
      go_ret2
      exact ⟨rfl, _, rfl⟩
  · by_cases e2 : rst t = []
    · have hv : expV (expD neg t) = .tuple #[.int .i64 (cl (if neg then -(dv (Txt.dig t) 0 : Int) else dv (Txt.dig t) 0)), .bool true] := by unfold expD; rw [if_neg e1, if_pos e2]; rfl
      rw [hv]
      have e3 : (Txt.dig t).isEmpty = false := by simpa using e1
      have e4 : (rst t).isEmpty = true := by simpa using e2
      rw [e3] at he
      rw [e4] at he2
      have hb1 := bs_size (Txt.dig t)
      have HG : Hid (∀ k (h : k < (bs (Txt.dig t)).size), (48 ≤ ((bs (Txt.dig t))[k].toNat : Int) ∧ ((bs (Txt.dig t))[k].toNat : Int) ≤ 57) ∧ dv ((Txt.dig t).take (k + 1)) 0 = dv ((Txt.dig t).take k) 0 * 10 + ((bs (Txt.dig t))[k].toNat - 48)) := by
        intro k h
        have h2 : k < (Txt.dig t).length := by omega
        rw [bs_get _ _ h]
        have := isD_get hD h2
        exact ⟨by omega, dv_take h2⟩
      have HN : Hid (dv ((Txt.dig t).take (bs (Txt.dig t)).size) 0 = dv (Txt.dig t) 0) := by show _ = _; rw [hb1, List.take_length]
      obtain ⟨V, hV⟩ : ∃ V, V = dv (Txt.dig t) 0 := ⟨_, rfl⟩
      rw [← hV] at HN ⊢
      obtain ⟨F, hF⟩ : ∃ F : Nat → Nat, F = fun k => dv ((Txt.dig t).take k) 0 := ⟨_, rfl⟩
      have HG2 : Hid (∀ k (h : k < (bs (Txt.dig t)).size), (48 ≤ ((bs (Txt.dig t))[k].toNat : Int) ∧ ((bs (Txt.dig t))[k].toNat : Int) ≤ 57) ∧ F (k + 1) = F k * 10 + ((bs (Txt.dig t))[k].toNat - 48)) := by rw [hF]; exact HG.out
      have HN2 : Hid (F (bs (Txt.dig t)).size = V) := by rw [hF]; exact HN.out
      have HF0 : Hid (F 0 = 0) := by rw [hF]; show dv _ 0 = 0; rw [List.take_zero]; rfl
      have hsD : (bs (Txt.dig t)).size ≤ 1000000 := by omega
      clear e1 e2 e3 e4 hD hDl hv hV hF HG HN hb1
      exact readExp_loop s r t neg bm bp w hpos hsz hc hx1 hcase HPm HPp (bs (Txt.dig t)) (bs (rst t)) F V HCt he he2 HG2 HN2 HF0 hsD
    · have hn : expD neg t = none := by unfold expD; rw [if_neg e1, if_neg e2]
      rw [expV_none hn]
      have e3 : (Txt.dig t).isEmpty = false := by simpa using e1
      have e4 : (rst t).isEmpty = false := by simpa using e2
      rw [e3] at he
      rw [e4] at he2
      clear hn e1 e2 e3 e4 hD hDl
      rcases hc with hc | hc <;> rcases hcase with ⟨rfl, rfl, hp1, hp2, hx2⟩ | ⟨rfl, rfl, rfl, hp1, hp2, hx2⟩ | ⟨rfl, rfl, rfl, rfl⟩
      all_goals
        go_enter Tryz.func109, Tryz.ntmps109
        go_wp2_with (first
          | (go_at_call 73; refine (HPm.out _).mono ?_; rintro e w' ⟨rfl, rfl⟩)
          | (go_at_call 73; refine (HPp.out _).mono ?_; rintro e w' ⟨rfl, rfl⟩)
          | (go_at_call 108; refine (HCt.out _).mono ?_; rintro e w' ⟨rfl, q, rfl⟩))
        go_ret2
        exact ⟨rfl, _, rfl⟩

end Go.Proofs.YtgbajhenmamjjaaGreatDoor

/-
  The landed readExp of any text, and read, walked.
-/
namespace Go.Proofs.YtgbajhenmamjjaaGreatDoor
set_option maxRecDepth 100000
open Go.RowKit Txt

set_option maxHeartbeats 400000 in
theorem readExp_no (s : ByteArray) (w : World) (hpos : 0 < s.size) (hc1 : ((s[0].toNat : Int) != 101) = true) (hc2 : ((s[0].toNat : Int) != 69) = true) :
    Calls Tryz.prog 109 #[.string s] w fun e w' => e = .returned (.tuple #[.int .i64 0, .bool false]) ∧ ∃ q, w' = w.drewN q := by
  go_enter Tryz.func109, Tryz.ntmps109
  go_wp2
  go_ret2
  exact ⟨rfl, 0, rfl⟩
theorem expo_cons (c : UInt8) (r : List UInt8) : Txt.expo (c :: r) = if c.toNat = 101 ∨ c.toNat = 69 then expS r else none := rfl
theorem expS_cons (c : UInt8) (r : List UInt8) : expS (c :: r) = if c.toNat = 45 then expD true r else if c.toNat = 43 then expD false r else expD false (c :: r) := rfl
theorem bs_tail (c : UInt8) (r : List UInt8) : (bs (c :: r)).extract 1 (bs (c :: r)).size = bs r := by
  rw [bs_extract, bs_size]; simp
theorem bs_head (c : UInt8) (r : List UInt8) (h : 0 < (bs (c :: r)).size) : (bs (c :: r))[0] = c := by
  rw [bs_get]; rfl
theorem byte_ne {a c : UInt8} (h : a.toNat ≠ c.toNat) : (a == c) = false := by
  rw [beq_eq_false_iff_ne]; intro e; exact h (by rw [e])
theorem byte_eq {a c : UInt8} (h : a.toNat = c.toNat) : (a == c) = true := by
  rw [beq_iff_eq]; exact UInt8.toNat_inj.1 h

theorem readExp_any (c : UInt8) (r : List UInt8) (w : World) (hl : r.length ≤ 999999) :
    Calls Tryz.prog 109 #[.string (bs (c :: r))] w fun e w' => e = .returned (expV (Txt.expo (c :: r))) ∧ ∃ q, w' = w.drewN q := by
  have hsz : (bs (c :: r)).size = r.length + 1 := bs_size _
  have hpos : 0 < (bs (c :: r)).size := by omega
  have hh := bs_head c r hpos
  by_cases he : c.toNat = 101 ∨ c.toNat = 69
  · have hx : Txt.expo (c :: r) = expS r := by rw [expo_cons, if_pos he]
    rw [hx]
    have hc : (((bs (c :: r))[0].toNat : Int) = 101 ∨ ((bs (c :: r))[0].toNat : Int) = 69) := by rw [hh]; omega
    have HM : ∀ w, Calls Tryz.prog 73 #[.string (bs r), .string ⟨#[45]⟩] w fun e w' => e = .returned (.bool (hp 45 r)) ∧ w' = w := fun w => pref_any r 45 w (by omega)
    have HP : ∀ w, Calls Tryz.prog 73 #[.string (bs r), .string ⟨#[43]⟩] w fun e w' => e = .returned (.bool (hp 43 r)) ∧ w' = w := fun w => pref_any r 43 w (by omega)
    cases r with
    | nil =>
      have := readExp_yes (bs (c :: [])) [] [] false false false w hpos (by omega) hc (bs_tail c []) (by simp) (Or.inr (Or.inr ⟨rfl, rfl, rfl, rfl⟩)) HM HP
      exact this
    | cons a q =>
      have hq : (bs (a :: q)).size = q.length + 1 := bs_size _
      have hql : q.length + 1 ≤ 999999 := by simpa using hl
      by_cases h45 : a.toNat = 45
      · have e1 : hp 45 (a :: q) = true := byte_eq h45
        rw [e1] at HM
        have := readExp_yes (bs (c :: a :: q)) (a :: q) q true true _ w hpos (by rw [hsz]; omega) hc (bs_tail c _) (by omega) (Or.inl ⟨rfl, rfl, by omega, by omega, bs_tail a q⟩) HM HP
        rw [expS_cons, if_pos h45]
        exact this
      · have e1 : hp 45 (a :: q) = false := byte_ne h45
        rw [e1] at HM
        by_cases h43 : a.toNat = 43
        · have e2 : hp 43 (a :: q) = true := byte_eq h43
          rw [e2] at HP
          have := readExp_yes (bs (c :: a :: q)) (a :: q) q false false true w hpos (by rw [hsz]; omega) hc (bs_tail c _) (by omega) (Or.inr (Or.inl ⟨rfl, rfl, rfl, by omega, by omega, bs_tail a q⟩)) HM HP
          rw [expS_cons, if_neg h45, if_pos h43]
          exact this
        · have e2 : hp 43 (a :: q) = false := byte_ne h43
          rw [e2] at HP
          have := readExp_yes (bs (c :: a :: q)) (a :: q) (a :: q) false false false w hpos (by rw [hsz]; omega) hc (bs_tail c _) (by omega) (Or.inr (Or.inr ⟨rfl, rfl, rfl, rfl⟩)) HM HP
          rw [expS_cons, if_neg h45, if_neg h43]
          exact this
  · have hx : Txt.expo (c :: r) = none := by rw [expo_cons, if_neg he]
    rw [hx]
    exact readExp_no _ w hpos (by rw [hh, bne_iff_ne]; omega) (by rw [hh, bne_iff_ne]; omega)

theorem below_box (w : World) (o : Obj) (q : Nat) (a b : Value) : Below w.heap.size w ((((w.alloc o).drewN q).setCell ⟨w.heap.size, 0, none⟩ a).setCell ⟨w.heap.size, 1, none⟩ b) :=
  ((below_drewN ((Below.refl _ _).alloc (Nat.le_refl _) _) q).setCell (p := ⟨w.heap.size, 0, none⟩) (Nat.le_refl _) _).setCell (p := ⟨w.heap.size, 1, none⟩) (Nat.le_refl _) _
/-- What the program holds for an exponent. -/
def Held (x E : Int) : Prop := x = E ∨ (39000 ≤ x ∧ 39000 ≤ E ∧ x ≤ 41000) ∨ (x ≤ -39000 ∧ E ≤ -39000 ∧ -41000 ≤ x)
theorem held_cl (e : Int) (k : Nat) (hk : k ≤ 400) : Held (-(k : Int) + cl e) (e - k) := by unfold Held cl; omega
theorem held_cl0 (e : Int) : Held (cl e) e := by unfold Held cl; omega
theorem cl_range (e : Int) : -40000 ≤ cl e ∧ cl e ≤ 40000 := by unfold cl; omega

set_option maxHeartbeats 1000000 in
theorem read_A (s sd sr : ByteArray) (w : World) (HC : Hid (∀ w, Calls Tryz.prog 108 #[.string s] w fun e w' => e = .returned (.tuple #[.string sd, .string sr]) ∧ ∃ q, w' = w.drewN q))
    (he : sd.toList.isEmpty = true) :
    Calls Tryz.prog 93 #[.string s] w fun e w' => e = .returned (.tuple #[.agg #[.string ⟨#[]⟩, .int .i64 0], .bool false]) ∧ Below w.heap.size w w' := by
  go_enter Tryz.func93, Tryz.ntmps93
  go_wp2_with (first
    | (go_at_call 108; refine (HC.out _).mono ?_; rintro e w' ⟨rfl, q1, rfl⟩))
  refine bodyPost_ret (v := .tuple #[.agg #[.string ⟨#[]⟩, .int .i64 0], .bool false]) (by simp [results, Tryz.results93, go_sem]) rfl ⟨rfl, ?_⟩
  exact below_box _ _ _ _ _

set_option maxHeartbeats 1000000 in
theorem read_B (s sd sr : ByteArray) (w : World) (HC : Hid (∀ w, Calls Tryz.prog 108 #[.string s] w fun e w' => e = .returned (.tuple #[.string sd, .string sr]) ∧ ∃ q, w' = w.drewN q))
    (he : sd.toList.isEmpty = false) (HP : Hid (∀ w, Calls Tryz.prog 73 #[.string sr, .string ⟨#[46]⟩] w fun e w' => e = .returned (.bool false) ∧ w' = w)) (hr : sr.toList.isEmpty = true) :
    Calls Tryz.prog 93 #[.string s] w fun e w' => e = .returned (.tuple #[.agg #[.string sd, .int .i64 0], .bool true]) ∧ Below w.heap.size w w' := by
  go_enter Tryz.func93, Tryz.ntmps93
  go_wp2_with (first
    | (go_at_call 108; refine (HC.out _).mono ?_; rintro e w' ⟨rfl, q1, rfl⟩)
    | (go_at_call 73; refine (HP.out _).mono ?_; rintro e w' ⟨rfl, rfl⟩))
  refine bodyPost_ret (v := .tuple #[.agg #[.string sd, .int .i64 0], .bool true]) (by simp [results, Tryz.results93, go_sem]) rfl ⟨rfl, ?_⟩
  exact below_box _ _ _ _ _

set_option maxHeartbeats 1000000 in
theorem read_C (s sd sr : ByteArray) (x : Int) (w : World) (HC : Hid (∀ w, Calls Tryz.prog 108 #[.string s] w fun e w' => e = .returned (.tuple #[.string sd, .string sr]) ∧ ∃ q, w' = w.drewN q))
    (he : sd.toList.isEmpty = false) (HP : Hid (∀ w, Calls Tryz.prog 73 #[.string sr, .string ⟨#[46]⟩] w fun e w' => e = .returned (.bool false) ∧ w' = w)) (hr : sr.toList.isEmpty = false) (HE : Hid (∀ w, Calls Tryz.prog 109 #[.string sr] w fun e w' => e = .returned (.tuple #[.int .i64 x, .bool true]) ∧ ∃ q, w' = w.drewN q)) (hx1 : -40000 ≤ x) (hx2 : x ≤ 40000) :
    Calls Tryz.prog 93 #[.string s] w fun e w' => e = .returned (.tuple #[.agg #[.string sd, .int .i64 x], .bool true]) ∧ Below w.heap.size w w' := by
  go_enter Tryz.func93, Tryz.ntmps93
  go_wp2_with (first
    | (go_at_call 108; refine (HC.out _).mono ?_; rintro e w' ⟨rfl, q1, rfl⟩)
    | (go_at_call 73; refine (HP.out _).mono ?_; rintro e w' ⟨rfl, rfl⟩)
    | (go_at_call 109; refine (HE.out _).mono ?_; rintro e w' ⟨rfl, q3, rfl⟩))
  refine bodyPost_ret (v := .tuple #[.agg #[.string sd, .int .i64 x], .bool true]) (by simp [results, Tryz.results93, go_sem]) rfl ⟨rfl, ?_⟩
  exact below_box _ _ _ _ _

set_option maxHeartbeats 1000000 in
theorem read_Cn (s sd sr : ByteArray) (x : Int) (w : World) (HC : Hid (∀ w, Calls Tryz.prog 108 #[.string s] w fun e w' => e = .returned (.tuple #[.string sd, .string sr]) ∧ ∃ q, w' = w.drewN q))
    (he : sd.toList.isEmpty = false) (HP : Hid (∀ w, Calls Tryz.prog 73 #[.string sr, .string ⟨#[46]⟩] w fun e w' => e = .returned (.bool false) ∧ w' = w)) (hr : sr.toList.isEmpty = false) (HE : Hid (∀ w, Calls Tryz.prog 109 #[.string sr] w fun e w' => e = .returned (.tuple #[.int .i64 x, .bool false]) ∧ ∃ q, w' = w.drewN q)) :
    Calls Tryz.prog 93 #[.string s] w fun e w' => e = .returned (.tuple #[.agg #[.string ⟨#[]⟩, .int .i64 0], .bool false]) ∧ Below w.heap.size w w' := by
  go_enter Tryz.func93, Tryz.ntmps93
  go_wp2_with (first
    | (go_at_call 108; refine (HC.out _).mono ?_; rintro e w' ⟨rfl, q1, rfl⟩)
    | (go_at_call 73; refine (HP.out _).mono ?_; rintro e w' ⟨rfl, rfl⟩)
    | (go_at_call 109; refine (HE.out _).mono ?_; rintro e w' ⟨rfl, q3, rfl⟩))
  refine bodyPost_ret (v := .tuple #[.agg #[.string ⟨#[]⟩, .int .i64 0], .bool false]) (by simp [results, Tryz.results93, go_sem]) rfl ⟨rfl, ?_⟩
  exact below_box _ _ _ _ _

set_option maxHeartbeats 400000 in
theorem read_D (s sd sr ss sb st : ByteArray) (w : World) (HC : Hid (∀ w, Calls Tryz.prog 108 #[.string s] w fun e w' => e = .returned (.tuple #[.string sd, .string sr]) ∧ ∃ q, w' = w.drewN q))
    (he : sd.toList.isEmpty = false) (HP : Hid (∀ w, Calls Tryz.prog 73 #[.string sr, .string ⟨#[46]⟩] w fun e w' => e = .returned (.bool true) ∧ w' = w)) (hpos : 0 < sr.size) (hsz : sr.size ≤ 1000000) (hsx : sr.extract 1 sr.size = ss) (HC2 : Hid (∀ w, Calls Tryz.prog 108 #[.string ss] w fun e w' => e = .returned (.tuple #[.string sb, .string st]) ∧ ∃ q, w' = w.drewN q)) (hb : sb.toList.isEmpty = true) :
    Calls Tryz.prog 93 #[.string s] w fun e w' => e = .returned (.tuple #[.agg #[.string ⟨#[]⟩, .int .i64 0], .bool false]) ∧ Below w.heap.size w w' := by
  go_enter Tryz.func93, Tryz.ntmps93
  go_wp2_with fail
  refine (HC.out _).mono ?_
  rintro e w' ⟨rfl, q1, rfl⟩
  go_wp2_with fail
  refine (HP.out _).mono ?_
  rintro e w' ⟨rfl, rfl⟩
  go_wp2_with fail
  refine (HC2.out _).mono ?_
  rintro e w' ⟨rfl, q2, rfl⟩
  go_wp2_with fail
  refine bodyPost_ret (v := .tuple #[.agg #[.string ⟨#[]⟩, .int .i64 0], .bool false]) (by simp [results, Tryz.results93, go_sem]) rfl ⟨rfl, ?_⟩
  exact below_box _ _ _ _ _

set_option maxHeartbeats 1000000 in
theorem read_E (s sd sr ss sb st : ByteArray) (w : World) (HC : Hid (∀ w, Calls Tryz.prog 108 #[.string s] w fun e w' => e = .returned (.tuple #[.string sd, .string sr]) ∧ ∃ q, w' = w.drewN q))
    (he : sd.toList.isEmpty = false) (HP : Hid (∀ w, Calls Tryz.prog 73 #[.string sr, .string ⟨#[46]⟩] w fun e w' => e = .returned (.bool true) ∧ w' = w)) (hpos : 0 < sr.size) (hsz : sr.size ≤ 1000000) (hsx : sr.extract 1 sr.size = ss) (HC2 : Hid (∀ w, Calls Tryz.prog 108 #[.string ss] w fun e w' => e = .returned (.tuple #[.string sb, .string st]) ∧ ∃ q, w' = w.drewN q)) (hb : sb.toList.isEmpty = false) (hdl : sd.size ≤ 1000000) (hbl : sb.size ≤ 1000000) (hr : st.toList.isEmpty = true) :
    Calls Tryz.prog 93 #[.string s] w fun e w' => e = .returned (.tuple #[.agg #[.string (sd ++ sb), .int .i64 (-(sb.size : Int))], .bool true]) ∧ Below w.heap.size w w' := by
  go_enter Tryz.func93, Tryz.ntmps93
  go_wp2_with fail
  refine (HC.out _).mono ?_
  rintro e w' ⟨rfl, q1, rfl⟩
  go_wp2_with fail
  refine (HP.out _).mono ?_
  rintro e w' ⟨rfl, rfl⟩
  go_wp2_with fail
  refine (HC2.out _).mono ?_
  rintro e w' ⟨rfl, q2, rfl⟩
  go_wp2_with fail
  refine bodyPost_ret (v := .tuple #[.agg #[.string (sd ++ sb), .int .i64 (-(sb.size : Int))], .bool true]) (by simp [results, Tryz.results93, go_sem]) rfl ⟨rfl, ?_⟩
  exact below_box _ _ _ _ _

set_option maxHeartbeats 1000000 in
theorem read_F (s sd sr ss sb st : ByteArray) (x : Int) (w : World) (HC : Hid (∀ w, Calls Tryz.prog 108 #[.string s] w fun e w' => e = .returned (.tuple #[.string sd, .string sr]) ∧ ∃ q, w' = w.drewN q))
    (he : sd.toList.isEmpty = false) (HP : Hid (∀ w, Calls Tryz.prog 73 #[.string sr, .string ⟨#[46]⟩] w fun e w' => e = .returned (.bool true) ∧ w' = w)) (hpos : 0 < sr.size) (hsz : sr.size ≤ 1000000) (hsx : sr.extract 1 sr.size = ss) (HC2 : Hid (∀ w, Calls Tryz.prog 108 #[.string ss] w fun e w' => e = .returned (.tuple #[.string sb, .string st]) ∧ ∃ q, w' = w.drewN q)) (hb : sb.toList.isEmpty = false) (hdl : sd.size ≤ 1000000) (hbl : sb.size ≤ 1000000) (hr : st.toList.isEmpty = false) (HE : Hid (∀ w, Calls Tryz.prog 109 #[.string st] w fun e w' => e = .returned (.tuple #[.int .i64 x, .bool true]) ∧ ∃ q, w' = w.drewN q)) (hx1 : -40000 ≤ x) (hx2 : x ≤ 40000) :
    Calls Tryz.prog 93 #[.string s] w fun e w' => e = .returned (.tuple #[.agg #[.string (sd ++ sb), .int .i64 (-(sb.size : Int) + x)], .bool true]) ∧ Below w.heap.size w w' := by
  go_enter Tryz.func93, Tryz.ntmps93
  go_wp2_with fail
  refine (HC.out _).mono ?_
  rintro e w' ⟨rfl, q1, rfl⟩
  go_wp2_with fail
  refine (HP.out _).mono ?_
  rintro e w' ⟨rfl, rfl⟩
  go_wp2_with fail
  refine (HC2.out _).mono ?_
  rintro e w' ⟨rfl, q2, rfl⟩
  go_wp2_with fail
  refine (HE.out _).mono ?_
  rintro e w' ⟨rfl, q3, rfl⟩
  go_wp2_with fail
  refine bodyPost_ret (v := .tuple #[.agg #[.string (sd ++ sb), .int .i64 (-(sb.size : Int) + x)], .bool true]) (by simp [results, Tryz.results93, go_sem]) rfl ⟨rfl, ?_⟩
  exact below_box _ _ _ _ _

set_option maxHeartbeats 1000000 in
theorem read_Fn (s sd sr ss sb st : ByteArray) (x : Int) (w : World) (HC : Hid (∀ w, Calls Tryz.prog 108 #[.string s] w fun e w' => e = .returned (.tuple #[.string sd, .string sr]) ∧ ∃ q, w' = w.drewN q))
    (he : sd.toList.isEmpty = false) (HP : Hid (∀ w, Calls Tryz.prog 73 #[.string sr, .string ⟨#[46]⟩] w fun e w' => e = .returned (.bool true) ∧ w' = w)) (hpos : 0 < sr.size) (hsz : sr.size ≤ 1000000) (hsx : sr.extract 1 sr.size = ss) (HC2 : Hid (∀ w, Calls Tryz.prog 108 #[.string ss] w fun e w' => e = .returned (.tuple #[.string sb, .string st]) ∧ ∃ q, w' = w.drewN q)) (hb : sb.toList.isEmpty = false) (hdl : sd.size ≤ 1000000) (hbl : sb.size ≤ 1000000) (hr : st.toList.isEmpty = false) (HE : Hid (∀ w, Calls Tryz.prog 109 #[.string st] w fun e w' => e = .returned (.tuple #[.int .i64 x, .bool false]) ∧ ∃ q, w' = w.drewN q)) :
    Calls Tryz.prog 93 #[.string s] w fun e w' => e = .returned (.tuple #[.agg #[.string ⟨#[]⟩, .int .i64 0], .bool false]) ∧ Below w.heap.size w w' := by
  go_enter Tryz.func93, Tryz.ntmps93
  go_wp2_with fail
  refine (HC.out _).mono ?_
  rintro e w' ⟨rfl, q1, rfl⟩
  go_wp2_with fail
  refine (HP.out _).mono ?_
  rintro e w' ⟨rfl, rfl⟩
  go_wp2_with fail
  refine (HC2.out _).mono ?_
  rintro e w' ⟨rfl, q2, rfl⟩
  go_wp2_with fail
  refine (HE.out _).mono ?_
  rintro e w' ⟨rfl, q3, rfl⟩
  go_wp2_with fail
  refine bodyPost_ret (v := .tuple #[.agg #[.string ⟨#[]⟩, .int .i64 0], .bool false]) (by simp [results, Tryz.results93, go_sem]) rfl ⟨rfl, ?_⟩
  exact below_box _ _ _ _ _

end Go.Proofs.YtgbajhenmamjjaaGreatDoor

/-
  The reference of layer 2: Exact, the sum without rounding.
-/
namespace Go.Proofs.YtgbajhenmamjjaaGreatDoor
set_option maxRecDepth 100000
open Go.RowKit Dg Flo

theorem kind_fin {a : Int} (hm : mag a < 9218868437227405312) (h0 : 0 ≤ mag a) : (mag a = 0 ∧ kindZ a = 0) ∨ (0 < mag a ∧ mag a < 4503599627370496 ∧ kindZ a = 1) ∨ (4503599627370496 ≤ mag a ∧ kindZ a = 2) := by
  unfold kindZ
  rw [if_neg (by omega)]
  by_cases c1 : mag a = 0
  · rw [if_pos c1]; exact Or.inl ⟨c1, rfl⟩
  · rw [if_neg c1, if_neg (by omega)]
    by_cases c2 : mag a < 4503599627370496
    · rw [if_pos c2]; exact Or.inr (Or.inl ⟨by omega, c2, rfl⟩)
    · rw [if_neg c2]; exact Or.inr (Or.inr ⟨by omega, rfl⟩)
theorem kind_inf {a : Int} (hm : mag a = 9218868437227405312) : kindZ a = 3 := by
  unfold kindZ; rw [hm]; rfl
theorem kind_nan4 {a : Int} (hm : 9218868437227405312 < mag a) : kindZ a = 4 := by
  unfold kindZ; rw [if_pos hm]

theorem parts_fin {a : Int} (h : U64 a) (hm : mag a < 9218868437227405312) :
    ∃ f : Nat, pfrac a = (f : Int) ∧ f < 9007199254740992 ∧ -1074 ≤ pexp a ∧ pexp a ≤ 971 ∧ f * 2 ^ (pexp a + 1074).toNat = MZ a := by
  obtain ⟨g1, g2, g3, g4, g5⟩ := mag_parts h
  have g6 := mag_range h
  unfold pexp pfrac MZ
  rcases kind_fin hm g6.1 with ⟨k1, k⟩ | ⟨k1, k2, k⟩ | ⟨k1, k⟩
  · rw [k]
    refine ⟨0, by simp, by omega, by simp, by simp, ?_⟩
    rw [k1, Nat.zero_mul]
    exact M_zero.symm
  · rw [k]
    refine ⟨(frac a).toNat, by simp; omega, by omega, by simp, by simp, ?_⟩
    have e : expo a = 0 := by omega
    rw [if_pos rfl]
    unfold M
    rw [if_pos (show (mag a).toNat < 4503599627370496 by omega)]
    rw [show ((-1074 : Int) + 1074).toNat = 0 by omega, Nat.pow_zero, Nat.mul_one]
    omega
  · rw [k]
    refine ⟨(frac a).toNat + 4503599627370496, by simp; omega, by omega, by simp; omega, by simp; omega, ?_⟩
    rw [if_neg (by decide), if_pos rfl]
    unfold M
    rw [if_neg (show ¬ (mag a).toNat < 4503599627370496 by omega)]
    have e1 : (mag a).toNat % 4503599627370496 = (frac a).toNat := by omega
    have e2 : (mag a).toNat / 4503599627370496 = (expo a).toNat := by omega
    rw [e1, e2, show (expo a - 1075 + 1074).toNat = (expo a).toNat - 1 by omega, Nat.add_comm]

theorem dlen_pow {n K k : Nat} (h : n < 2 ^ K) (hK : K ≤ 16 * k) : dlen n ≤ k := by
  refine dlen_le (Nat.lt_of_lt_of_le h ?_)
  rw [pow16]
  exact Nat.pow_le_pow_right (by decide) (by omega)

theorem up_nat (v : Value) (n l k : Nat) (K : Int) (w : World) (hK : K = (k : Int)) (hD : D w v n l) (hl : l ≤ 134217728) (hk : k ≤ 1073741824) :
    Calls Tryz.prog 55 #[v, .int .i64 K] w fun e w' => ∃ v', e = .returned v' ∧ D w' v' (n * 2 ^ k) (dlen (n * 2 ^ k)) ∧ Below w.heap.size w w' := by
  rw [hK]; exact up_any v n l k w hD hl hk

theorem sz_add (s : Bool) (x y : Nat) : sz s x + sz s y = sz s (x + y) := by unfold sz; cases s <;> simp <;> omega
theorem sz_sub {s t : Bool} {x y : Nat} (h : s ≠ t) (hx : y ≤ x) : sz s x + sz t y = sz s (x - y) := by
  unfold sz; cases s <;> cases t <;> simp at * <;> omega
theorem sz_sub2 {s t : Bool} {x y : Nat} (h : s ≠ t) (hx : x ≤ y) : sz s x + sz t y = sz t (y - x) := by
  unfold sz; cases s <;> cases t <;> simp at * <;> omega

/-- How sign and size of a sum come of those of the two. -/
def ExactP (n o ng : Bool) (X Y N : Nat) : Prop := (n = o ∧ ng = n ∧ N = X + Y) ∨ (n ≠ o ∧ ng = n ∧ Y ≤ X ∧ N = X - Y) ∨ (n ≠ o ∧ ng = o ∧ X ≤ Y ∧ N = Y - X)

end Go.Proofs.YtgbajhenmamjjaaGreatDoor

/-
  The reference of layer 2: Sum, Add, Sub, Neg, Mul.
-/
namespace Go.Proofs.YtgbajhenmamjjaaGreatDoor
set_option maxRecDepth 100000
open Go.RowKit Dg Flo

theorem sz_zero {s : Bool} {n : Nat} : sz s n = 0 ↔ n = 0 := by unfold sz; cases s <;> simp
theorem sz_neg {s : Bool} {n : Nat} (h : n ≠ 0) : decide (sz s n < 0) = s := by unfold sz; cases s <;> simp <;> omega
theorem sz_abs (s : Bool) (n : Nat) : (sz s n).natAbs = n := by unfold sz; cases s <;> simp
theorem MZ_zero {a : Int} (h0 : 0 ≤ mag a) : MZ a = 0 ↔ mag a = 0 := by
  unfold MZ
  have := @M_inj (mag a).toNat 0
  rw [M_zero] at this
  rw [this]
  omega
theorem zero_signs {a b : Int} (ha : U64 a) (hb : U64 b) (h : SV a + SV b = 0) (h2 : (belowB a && belowB b) = true) : mag a = 0 ∧ mag b = 0 := by
  have h3 : belowB a = true := by revert h2; cases belowB a <;> simp
  have h4 : belowB b = true := by revert h2; cases belowB b <;> simp
  unfold SV sz at h
  rw [h3, h4] at h
  simp only [if_true] at h
  exact ⟨(MZ_zero (mag_range ha).1).1 (by omega), (MZ_zero (mag_range hb).1).1 (by omega)⟩
theorem kind_zero0 {a : Int} (h : mag a = 0) : kindZ a = 0 := by unfold kindZ; rw [h]; rfl

theorem rung_one (v : Nat) : rung 1 (2 * v) = rung 0 v := by
  have := rung_scale 0 v 1
  rw [Nat.zero_add, Nat.pow_one, Nat.mul_comm v 2] at this
  exact this

theorem round_one (v : Value) (N l : Nat) (exp : Int) (neg : Bool) (w : World) (hD : D w v N l) (hl : l ≤ 1048576) (e1 : -1074 ≤ exp) (e2 : exp ≤ 16777216) :
    Calls Tryz.prog 90 #[.bool neg, .int .i64 exp, v, .bool false] w fun e w' => e = .returned (.int .u64 (sgn neg + (rung 0 (N * 2 ^ (exp + 1074).toNat) : Nat))) ∧ Below w.heap.size w w' := by
  have h := round_any v N l 1 exp false neg w hD hl (by omega) e2 (by omega) (by simp)
  have e : (2 * N + false.toNat) * 2 ^ (exp + 1073 + ((1 : Nat) : Int)).toNat = 2 * (N * 2 ^ (exp + 1074).toNat) := by
    rw [show exp + 1073 + ((1 : Nat) : Int) = exp + 1074 by omega]
    simp only [Bool.toNat_false, Nat.add_zero]
    rw [Nat.mul_assoc]
  rw [e, rung_one] at h
  exact h

end Go.Proofs.YtgbajhenmamjjaaGreatDoor

/-
  Trim, Sum and Minus once more: what they hand back lies in a block of its own.
-/
namespace Go.Proofs.YtgbajhenmamjjaaGreatDoor
set_option maxRecDepth 100000
open Go.RowKit Dg

/-- A slice whose block is not one of the first B. -/
def Fresh (B : Nat) (v : Value) : Prop := ∀ g, v.ownBlock = some g → B ≤ g
theorem Fresh.mono {B B' : Nat} {v : Value} (h : Fresh B v) (hb : B' ≤ B) : Fresh B' v := fun g hg => Nat.le_trans hb (h g hg)
theorem fresh_made (w : World) : Fresh w.heap.size (.slice (some ⟨w.heap.size, 0, none⟩) 0 0) := by
  intro g hg; simp [Value.ownBlock] at hg; omega

set_option maxHeartbeats 400000 in
theorem trim_new (v : Value) (n l : Nat) (w : World) (hD : D w v n l) (hl : l ≤ 1073741824) :
    Calls Tryz.prog 87 #[v] w fun e w' => ∃ v', e = .returned v' ∧ D w' v' n (dlen n) ∧ Below w.heap.size w w' ∧ Fresh w.heap.size v' := by
  have hsh := hD.shape
  have hlt := hD.lt
  obtain ⟨ds, g, cap, rfl, hlen, hsm, hval, hown⟩ := hD
  obtain ⟨g', cap', hv', hg, hlc, hcm, hcell⟩ := hsh
  obtain ⟨rfl, rfl⟩ : g = g' ∧ cap = cap' := by simpa using hv'
  clear hv'
  unfold maxLen at hcm
  obtain ⟨i0, hi, hz0, hz1, hz2⟩ := info_parts infoU
  go_enter Tryz.func87, Tryz.ntmps87
  go_wp2
  go_loop [3] (fun t => ∃ k : Nat, k ≤ l ∧ t = .int .i64 k ∧ n < 65536 ^ k) (fun t => (intOf t).toNat)
  case atStart => exact ⟨l, Nat.le_refl _, rfl, hlt⟩
  case round =>
    obtain ⟨k, hk, rfl, hn⟩ := hrel
    cases k with
    | zero =>
      have hz : n = 0 := by simpa using hn
      clear hcell
      go_wp2
      go_ret
      exact ⟨_, rfl, D_empty w, (Below.refl _ _).alloc (Nat.le_refl _) _, fresh_made w⟩
    | succ k =>
      have hc := hcell k (by omega)
      clear hcell
      by_cases c : dig n k = 0
      · rw [c] at hc
        go_wp2
        go_round
        case rel => exact ⟨k, by omega, by go_num, lt_of_dig hn c⟩
        case measure => simp [intOf]
      · have hcz : (((dig n k : Nat) : Int) == 0) = false := by rw [beq_eq_false_iff_ne]; omega
        have hds : (cells (ds.take (k + 1))).length = (k + 1) * 1 := by rw [cells_length, List.length_take]; omega
        have HN : Hid (∀ j u, (cells (ds.take (k + 1)))[j]? = some u → (w.alloc (.cells #[] 22)).cell? ((⟨g, 0, none⟩ : Addr).add j) = some u) := news_of_own hown _
        have hm : (w.alloc (.cells #[] 22)).ownsRow w.heap.size 22 1 (.slice (some ⟨w.heap.size, 0, none⟩) 0 0) 0 [] := World.ownsRow_made w #[] 0 (Nat.le_refl _) (by decide) rfl
        have h1 := cells_one (ds.take (k + 1))
        have hv : val (ds.take (k + 1)) = n := by rw [val_take ds (k + 1) hsm (by omega), hval, Nat.mod_eq_of_lt hn]
        have hlast : k + 1 = dlen n := dlen_eq hn (Or.inr (by simpa using c))
        have HV : Hid (val (ds.take (k + 1)) = n ∧ k + 1 = dlen n) := ⟨hv, hlast⟩
        have hs := small_take (k + 1) hsm
        clear hv hlast
        go_wp2_with (at_builtin; refine wpList_append_own _ rfl _ _ 67 rfl w.heap.size 22 i0 (.int .u64 0) 1 8 Tryz.underlying67 hi hz0 hz1 hz2 rfl (by decide) _ 0 [] rfl hm ⟨g, 0, none⟩ (k + 1) cap (cells (ds.take (k + 1))) rfl hds HN.out h1 (by unfold maxLen; omega) (by omega) (by simp) ?_)
        intro v' w1 hown' hgrow _
        have R := trim_close (ownsRow_base hown') hgrow hs HV.out
        have F : Fresh w.heap.size v' := fun g hg => (hown'.lt g hg).1
        clear hown' hgrow
        go_wp2
        go_ret
        exact ⟨_, rfl, R.1, R.2, F⟩

set_option maxHeartbeats 1000000 in
theorem sum_new (v u : Value) (n l m k : Nat) (w : World) (hD : D w v n l) (hE : D w u m k) (hl : l ≤ 536870912) (hk : k ≤ 536870912) :
    Calls Tryz.prog 51 #[v, u] w fun e w' => ∃ v', e = .returned v' ∧ D w' v' (n + m) (dlen (n + m)) ∧ Below w.heap.size w w' ∧ Fresh w.heap.size v' := by
  obtain ⟨i0, hi, hz0, hz1, hz2⟩ := info_parts infoU
  obtain ⟨L, hL⟩ : ∃ L, L = max l k := ⟨_, rfl⟩
  have hL1 : L ≤ 536870912 := by omega
  have hn : n < 65536 ^ L := Nat.lt_of_lt_of_le hD.lt (Nat.pow_le_pow_right (by decide) (by omega))
  have hm : m < 65536 ^ L := Nat.lt_of_lt_of_le hE.lt (Nat.pow_le_pow_right (by decide) (by omega))
  have HL : Hid (max l k = L) := hL.symm
  clear hL
  obtain ⟨B, hB⟩ : ∃ B, B = w.heap.size := ⟨_, rfl⟩
  go_enter Tryz.func51, Tryz.ntmps51
  go_wp2
  go_loopw [5, 6, 7] (fun o c i wr => ∃ (j cc : Nat) (os : List Nat), j ≤ L ∧ i = .int .i64 j ∧ c = .int .u64 cc ∧ cc ≤ 1 ∧ os.length = j ∧ Small16 os ∧ val os + 65536 ^ j * cc = n % 65536 ^ j + m % 65536 ^ j ∧
      wr.ownsRow w.heap.size 22 1 o j (cells os) ∧ Below w.heap.size w wr ∧ w.heap.size ≤ wr.heap.size ∧ D wr v n l ∧ D wr u m k) (fun _ _ i _ => L - (intOf i).toNat)
  case atStart =>
    exact ⟨0, 0, [], Nat.zero_le _, rfl, rfl, by omega, rfl, by intro x hx; simp at hx, by simp [val, Nat.mod_one], World.ownsRow_made w #[] 0 (Nat.le_refl _) (by decide) rfl, (Below.refl _ _).alloc (Nat.le_refl _) _, by simp, hD.below ((Below.refl _ _).alloc (Nat.le_refl _) _), hE.below ((Below.refl _ _).alloc (Nat.le_refl _) _)⟩
  case round =>
    obtain ⟨j, cc, os, hj, rfl, rfl, hc1, hlen, hsm, hval, hown, hbel, hsz, hDr, hEr⟩ := hrel
    have HV : Hid (val os + 65536 ^ j * cc = n % 65536 ^ j + m % 65536 ^ j) := hval
    clear hval
    by_cases hlt : j < L
    · obtain ⟨p, hp⟩ : ∃ p, p = dig n j := ⟨_, rfl⟩
      obtain ⟨q, hq⟩ : ∃ q, q = dig m j := ⟨_, rfl⟩
      have p1 : p < 65536 := by rw [hp]; exact dig_lt _ _
      have q1 : q < 65536 := by rw [hq]; exact dig_lt _ _
      obtain ⟨d, hd⟩ : ∃ d, d = (p + q + cc) % 65536 := ⟨_, rfl⟩
      obtain ⟨f, hf⟩ : ∃ f, f = (p + q + cc) / 65536 := ⟨_, rfl⟩
      have t1 : bits .and .u64 ((p : Int) + (q : Int) + (cc : Int)) 65535 = (d : Int) := by
        have := and16 (p + q + cc) (by omega)
        rw [hd, ← this]; simp
      have t2 : ((p : Int) + (q : Int) + (cc : Int)) / 65536 = (f : Int) := by rw [hf]; simp
      have hM := sum_math hp hq hlen HV.out
      rw [← hd, ← hf] at hM
      have HM : Hid (val (os ++ [d]) + 65536 ^ (j + 1) * f = n % 65536 ^ (j + 1) + m % 65536 ^ (j + 1)) := hM
      have d1 : d < 65536 := by omega
      have f1 : f ≤ 1 := by omega
      have H1 : Hid (∀ w, D w v n l → Calls Tryz.prog 86 #[v, .int .i64 j] w fun e w' => e = .returned (.int .u64 p) ∧ w' = w) := by
        intro w h
        have := at_any v n l j w h (by omega)
        rw [Int.toNat_natCast, ← hp] at this
        exact this
      have H2 : Hid (∀ w, D w u m k → Calls Tryz.prog 86 #[u, .int .i64 j] w fun e w' => e = .returned (.int .u64 q) ∧ w' = w) := by
        intro w h
        have := at_any u m k j w h (by omega)
        rw [Int.toNat_natCast, ← hq] at this
        exact this
      have hs2 := small_snoc hsm d1
      clear hp hq hd hf hM
      go_wp2_with fail
      refine (most_any _ _ n l m k _ hDr hEr).mono ?_
      rintro e w' ⟨rfl, rfl⟩
      rw [HL.out]
      go_wp2_with fail
      refine (H1.out _ hDr).mono ?_
      rintro e w' ⟨rfl, rfl⟩
      go_wp2_with fail
      refine (H2.out _ hEr).mono ?_
      rintro e w' ⟨rfl, rfl⟩
      go_wp2_with (at_builtin; refine wpList_append_own _ rfl _ _ 67 rfl w.heap.size 22 i0 (.int .u64 0) 1 8 Tryz.underlying67 hi hz0 hz1 hz2 rfl (by decide) _ j (cells os) rfl (hown.alloc _) ⟨w'.heap.size, 0, none⟩ 1 1 [.int .u64 (d : Int)] rfl rfl (one_new _ _ _) (by intro x hx; simp at hx; subst hx; rfl) (by unfold maxLen; omega) (by omega) (by simp; omega) ?_)
      intro v' w1 hown' hgrow _
      have R := sum_step hown hbel hsz hown' hgrow
      have hD1 := hD.below R.2.1
      have hE1 := hE.below R.2.1
      clear hown' hgrow hown hbel hsz
      go_wp2
      go_roundw
      case rel => exact ⟨j + 1, f, os ++ [d], by omega, by go_num, rfl, f1, by simp [hlen], hs2, HM.out, R.1, R.2.1, R.2.2, hD1, hE1⟩
      case measure => simp [intOf]; omega
    · have HJ : Hid (j = L) := by show j = L; omega
      go_wp2_with fail
      refine (most_any _ _ n l m k _ hDr hEr).mono ?_
      rintro e w' ⟨rfl, rfl⟩
      rw [HL.out]
      go_wp2_with (at_builtin; refine wpList_append_own _ rfl _ _ 67 rfl w.heap.size 22 i0 (.int .u64 0) 1 8 Tryz.underlying67 hi hz0 hz1 hz2 rfl (by decide) _ j (cells os) rfl (hown.alloc _) ⟨w'.heap.size, 0, none⟩ 1 1 [.int .u64 (cc : Int)] rfl rfl (one_new _ _ _) (by intro x hx; simp at hx; subst hx; rfl) (by unfold maxLen; omega) (by omega) (by simp; omega) ?_)
      intro v' w1 hown' hgrow _
      have R := sum_step hown hbel hsz hown' hgrow
      have hd : D w1 v' (n + m) (j + 1) := sum_end (ownsRow_base R.1) hsm hc1 hlen HJ.out hn hm HV.out
      have hb := R.2.1
      clear hown' hgrow hown hbel hsz R
      go_wp2_with fail
      refine (trim_new _ (n + m) (j + 1) _ hd (by omega)).mono ?_
      rintro e w2 ⟨v2, rfl, hd2, hb2, hf2⟩
      go_wp2
      go_ret
      exact ⟨_, rfl, hd2, hb.trans (hb2.mono hb.size), hf2.mono hb.size⟩

set_option maxHeartbeats 1000000 in
theorem minus_new (v u : Value) (n l m k : Nat) (w : World) (hD : D w v n l) (hE : D w u m k) (hl : l ≤ 536870912) (hm : m ≤ n) :
    Calls Tryz.prog 105 #[v, u] w fun e w' => ∃ v', e = .returned v' ∧ D w' v' (n - m) (dlen (n - m)) ∧ Below w.heap.size w w' ∧ Fresh w.heap.size v' := by
  obtain ⟨i0, hi, hz0, hz1, hz2⟩ := info_parts infoU
  have hn := hD.lt
  have hsh := hD.shape
  obtain ⟨g, cap, rfl, hg, hlc, hcm, -⟩ := hsh
  unfold maxLen at hcm
  go_enter Tryz.func105, Tryz.ntmps105
  go_wp2
  go_loopw [5, 6, 7] (fun o c i wr => ∃ (j cc : Nat) (os : List Nat), j ≤ l ∧ i = .int .i64 j ∧ c = .int .u64 cc ∧ cc ≤ 1 ∧ os.length = j ∧ Small16 os ∧ n % 65536 ^ j + 65536 ^ j * cc = val os + m % 65536 ^ j ∧
      wr.ownsRow w.heap.size 22 1 o j (cells os) ∧ o ≠ .slice none 0 0 ∧ Below w.heap.size w wr ∧ w.heap.size ≤ wr.heap.size ∧ D wr (.slice (some ⟨g, 0, none⟩) l cap) n l ∧ D wr u m k) (fun _ _ i _ => l - (intOf i).toNat)
  case atStart =>
    exact ⟨0, 0, [], Nat.zero_le _, rfl, rfl, by omega, rfl, by intro x hx; simp at hx, by simp [val, Nat.mod_one], World.ownsRow_made w #[] 0 (Nat.le_refl _) (by decide) rfl, by simp, (Below.refl _ _).alloc (Nat.le_refl _) _, by simp, hD.below ((Below.refl _ _).alloc (Nat.le_refl _) _), hE.below ((Below.refl _ _).alloc (Nat.le_refl _) _)⟩
  case round =>
    obtain ⟨j, cc, os, hj, rfl, rfl, hc1, hlen, hsm, hval, hown, hnil, hbel, hsz, hDr, hEr⟩ := hrel
    have HV : Hid (n % 65536 ^ j + 65536 ^ j * cc = val os + m % 65536 ^ j) := hval
    clear hval
    by_cases hlt : j < l
    · obtain ⟨p, hp⟩ : ∃ p, p = dig n j := ⟨_, rfl⟩
      obtain ⟨q, hq⟩ : ∃ q, q = dig m j := ⟨_, rfl⟩
      have p1 : p < 65536 := by rw [hp]; exact dig_lt _ _
      have q1 : q < 65536 := by rw [hq]; exact dig_lt _ _
      obtain ⟨f, hf⟩ : ∃ f, f = if p < q + cc then 1 else 0 := ⟨_, rfl⟩
      obtain ⟨d, hd⟩ : ∃ d, d = p + 65536 * f - (q + cc) := ⟨_, rfl⟩
      have hpd : p + 65536 * f = d + (q + cc) := by rw [hd, hf]; split <;> omega
      have hM := minus_math hp hq hlen HV.out hpd
      have HM : Hid (n % 65536 ^ (j + 1) + 65536 ^ (j + 1) * f = val (os ++ [d]) + m % 65536 ^ (j + 1)) := hM
      have d1 : d < 65536 := by rw [hd, hf]; split <;> omega
      have f1 : f ≤ 1 := by rw [hf]; split <;> omega
      have hcell : wr.cell? ⟨g, j, none⟩ = some (.int .u64 (p : Int)) := by rw [hp]; exact hDr.shape_cell rfl hlt
      have H2 : Hid (∀ w, D w u m k → Calls Tryz.prog 86 #[u, .int .i64 j] w fun e w' => e = .returned (.int .u64 q) ∧ w' = w) := by
        intro w h
        have := at_any u m k j w h (by omega)
        rw [Int.toNat_natCast, ← hq] at this
        exact this
      have hs2 := small_snoc hsm d1
      clear hp hq hM hd
      by_cases hlow : p < q + cc
      · rw [if_pos hlow] at hf
        subst hf
        have hd2 : (p : Int) + 65536 - ((q : Int) + (cc : Int)) = (d : Int) := by omega
        have HD2 : Hid ((p : Int) + 65536 - ((q : Int) + (cc : Int)) = (d : Int)) := hd2
        clear hpd hd2
        go_wp2_with fail
        go_quiet ((go_at_call 86; refine Calls.quiet_of_same (H2.out _ ?_); exact hEr))
        have hownq : (wr.drewN nq).ownsRow w.heap.size 22 1 u5 j (cells os) := hown
        have hbq : Below w.heap.size w (wr.drewN nq) := below_drewN hbel nq
        have hszq : w.heap.size ≤ (wr.drewN nq).heap.size := hsz
        clear hcell hEr hDr hown hbel hsz
        generalize wr.drewN nq = wq at *
        have hd2 := HD2.out
        go_wp2_with (at_builtin; refine wpList_append_own _ rfl _ _ 67 rfl w.heap.size 22 i0 (.int .u64 0) 1 8 Tryz.underlying67 hi hz0 hz1 hz2 rfl (by decide) _ j (cells os) rfl (hownq.alloc _) ⟨wq.heap.size, 0, none⟩ 1 1 [.int .u64 (d : Int)] rfl rfl (one_new _ _ _) (by intro x hx; simp at hx; subst hx; rfl) (by unfold maxLen; omega) (by omega) (by simp; omega) ?_)
        intro v' w1 hown' hgrow _
        have R := sum_step hownq hbq hszq hown' hgrow
        have hD1 := hD.below R.2.1
        have hE1 := hE.below R.2.1
        clear hown' hgrow hownq hbq hszq
        go_wp2
        go_roundw
        case rel => exact ⟨j + 1, 1, os ++ [d], by omega, by go_num, rfl, f1, by simp [hlen], hs2, HM.out, R.1, nil_ne R.1, R.2.1, R.2.2, hD1, hE1⟩
        case measure => simp [intOf]; omega
      · rw [if_neg hlow] at hf
        subst hf
        have hd2 : (p : Int) - ((q : Int) + (cc : Int)) = (d : Int) := by omega
        have HD2 : Hid ((p : Int) - ((q : Int) + (cc : Int)) = (d : Int)) := hd2
        clear hpd hd2
        go_wp2_with fail
        go_quiet ((go_at_call 86; refine Calls.quiet_of_same (H2.out _ ?_); exact hEr))
        have hownq : (wr.drewN nq).ownsRow w.heap.size 22 1 u5 j (cells os) := hown
        have hbq : Below w.heap.size w (wr.drewN nq) := below_drewN hbel nq
        have hszq : w.heap.size ≤ (wr.drewN nq).heap.size := hsz
        clear hcell hEr hDr hown hbel hsz
        generalize wr.drewN nq = wq at *
        have hd2 := HD2.out
        go_wp2_with (at_builtin; refine wpList_append_own _ rfl _ _ 67 rfl w.heap.size 22 i0 (.int .u64 0) 1 8 Tryz.underlying67 hi hz0 hz1 hz2 rfl (by decide) _ j (cells os) rfl (hownq.alloc _) ⟨wq.heap.size, 0, none⟩ 1 1 [.int .u64 (d : Int)] rfl rfl (one_new _ _ _) (by intro x hx; simp at hx; subst hx; rfl) (by unfold maxLen; omega) (by omega) (by simp; omega) ?_)
        intro v' w1 hown' hgrow _
        have R := sum_step hownq hbq hszq hown' hgrow
        have hD1 := hD.below R.2.1
        have hE1 := hE.below R.2.1
        clear hown' hgrow hownq hbq hszq
        go_wp2
        go_roundw
        case rel => exact ⟨j + 1, 0, os ++ [d], by omega, by go_num, rfl, f1, by simp [hlen], hs2, HM.out, R.1, nil_ne R.1, R.2.1, R.2.2, hD1, hE1⟩
        case measure => simp [intOf]; omega
    · have HJ : j = l := by omega
      have hd : D wr u5 (n - m) j := minus_end (ownsRow_base hown) hnil hsm hlen HJ hn hm HV.out
      have hb := hbel
      clear hown hbel hsz HJ
      go_wp2_with fail
      refine (trim_new _ (n - m) j _ hd (by omega)).mono ?_
      rintro e w2 ⟨v2, rfl, hd2, hb2, hf2⟩
      go_wp2
      go_ret
      exact ⟨_, rfl, hd2, hb.trans (hb2.mono hb.size), hf2.mono hb.size⟩

end Go.Proofs.YtgbajhenmamjjaaGreatDoor
