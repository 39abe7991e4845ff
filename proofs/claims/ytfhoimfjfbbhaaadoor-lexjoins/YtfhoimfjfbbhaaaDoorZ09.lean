/-
  DecText, DecRead, DecRead2, FloLives, FloRef, FloRef2
-/
import Derived.Deep.Light
import Derived.Test.YtfhoimfjfbbhaaaDoorZ08

/-
  Texts: the landed cutDigits and the library's HasPrefix of one byte, walked.
-/
namespace Go.Proofs.YtfhoimfjfbbhaaaDoor
set_option maxRecDepth 100000
open Go.RowKit Txt

theorem isD_true {c : UInt8} (h1 : 48 ≤ (c.toNat : Int)) (h2 : (c.toNat : Int) ≤ 57) : isD c = true := by unfold isD; simp; omega
theorem isD_false {c : UInt8} (h : (c.toNat : Int) < 48 ∨ 57 < (c.toNat : Int)) : isD c = false := by unfold isD; simp; omega

set_option maxHeartbeats 1000000 in
theorem cut_gen (s : ByteArray) (l : List UInt8) (w : World) (hl : l.length ≤ 1000000) (hsz : s.size = l.length)
    (HG : Hid (∀ k (h : k < s.size) (h2 : k < l.length), s[k] = l[k]))
    (HE : Hid (∀ k, k ≤ l.length → (∀ j (h : j < l.length), j < k → isD l[j] = true) → (∀ h : k < l.length, isD l[k] = false) → bs (Txt.dig l) = s.extract 0 k ∧ bs (rst l) = s.extract k s.size)) :
    Calls Tryd.prog 34 #[.string s] w fun e w' => e = .returned (.tuple #[.string (bs (Txt.dig l)), .string (bs (rst l))]) ∧ ∃ q, w' = w.drewN q := by
  have hs2 : s.size ≤ 1000000 := by omega
  have HS : Hid (s.size = l.length) := hsz
  clear hsz
  go_enter Tryd.func34, Tryd.ntmps34
  go_wp2_with fail
  go_loop [4] (fun t => ∃ k : Nat, k ≤ s.size ∧ t = .int .i64 k ∧ Hid (∀ j (h : j < l.length), j < k → isD l[j] = true)) (fun t => s.size - (intOf t).toNat)
  case atStart => exact ⟨0, Nat.zero_le _, rfl, fun j _ h => by omega⟩
  case round =>
    obtain ⟨k, hk, rfl, HI⟩ := hrel
    have HEnd : Hid ((∀ h : k < l.length, isD l[k] = false) → bs (Txt.dig l) = s.extract 0 k ∧ bs (rst l) = s.extract k s.size) := fun h => HE.out k (by have := HS.out; omega) HI.out h
    by_cases hlt : k < s.size
    · have hg := HG.out k hlt (by have := HS.out; omega)
      by_cases h48 : 48 ≤ (s[k].toNat : Int)
      · by_cases h57 : (s[k].toNat : Int) ≤ 57
        · have HN : Hid (∀ j (h : j < l.length), j < k + 1 → isD l[j] = true) := by
            intro j h hj
            by_cases e : j = k
            · subst e; rw [← hg]; exact isD_true h48 h57
            · exact HI.out j h (by omega)
          clear hg
          go_wp2
          go_round
          case rel => exact ⟨k + 1, by omega, by go_num, HN⟩
          case measure => simp [intOf]; omega
        · have HX : Hid (bs (Txt.dig l) = s.extract 0 k ∧ bs (rst l) = s.extract k s.size) := HEnd.out fun h => by rw [← hg]; exact isD_false (by omega)
          clear hg
          go_wp2_with fail
          go_quiet (fail)
          go_wp2
          go_ret2
          exact ⟨by rw [HX.out.1, HX.out.2]; rfl, _, rfl⟩
      · have HX : Hid (bs (Txt.dig l) = s.extract 0 k ∧ bs (rst l) = s.extract k s.size) := HEnd.out fun h => by rw [← hg]; exact isD_false (by omega)
        clear hg
        go_wp2_with fail
        go_quiet (fail)
        go_wp2
        go_ret2
        exact ⟨by rw [HX.out.1, HX.out.2]; rfl, _, rfl⟩
    · have HX : Hid (bs (Txt.dig l) = s.extract 0 k ∧ bs (rst l) = s.extract k s.size) := HEnd.out fun h => by have := HS.out; omega
      go_wp2_with fail
      go_quiet (fail)
      go_wp2
      go_ret2
      exact ⟨by rw [HX.out.1, HX.out.2]; rfl, _, rfl⟩

theorem cut_any (l : List UInt8) (w : World) (hl : l.length ≤ 1000000) :
    Calls Tryd.prog 34 #[.string (bs l)] w fun e w' => e = .returned (.tuple #[.string (bs (Txt.dig l)), .string (bs (rst l))]) ∧ ∃ q, w' = w.drewN q := by
  refine cut_gen (bs l) l w hl (bs_size l) (fun k h _ => bs_get l k h) ?_
  intro k hk h1 h2
  obtain ⟨e1, e2⟩ := span_of l k hk h1 h2
  unfold Txt.dig rst
  rw [bs_extract, bs_extract, e1, e2, bs_size]
  refine ⟨by simp, ?_⟩
  rw [List.take_of_length_le (by simp)]

/-- Whether a text begins with a byte. -/
def hp (c : UInt8) (l : List UInt8) : Bool := match l with | [] => false | a :: _ => a == c
theorem bs_toList (l : List UInt8) : (bs l).toList = l := by rw [Lib.toList_data, bs_list]
theorem eq_one (a c : UInt8) : ((bs [a]).toList == (bs [c]).toList) = (a == c) := by
  rw [bs_toList, bs_toList]; simp
set_option maxHeartbeats 400000 in
theorem prefLite_any (l : List UInt8) (c : UInt8) (w : World) (hl : l.length ≤ 1000000) :
    Calls Tryd.prog 26 #[.string (bs l), .string (bs [c])] w fun e w' => e = .returned (.bool (hp c l)) ∧ w' = w := by
  have h1 : (bs [c]).size = 1 := bs_size _
  cases l with
  | nil =>
    have h0 : (bs []).size = 0 := bs_size _
    unfold hp
    go_enter Tryd.func26, Tryd.ntmps26
    go_wp2
    go_ret
    exact ⟨rfl, rfl⟩
  | cons a r =>
    have h0 : (bs (a :: r)).size = r.length + 1 := bs_size _
    have HX : Hid ((bs (a :: r)).extract 0 1 = bs [a]) := by show _ = _; rw [bs_extract]; simp
    have h2 : r.length ≤ 1000000 := by simp at hl; omega
    show Calls Tryd.prog _ _ w fun e w' => e = .returned (.bool (a == c)) ∧ w' = w
    rw [← eq_one, ← HX.out]
    generalize bs (a :: r) = s at *
    generalize bs [c] = p at *
    clear HX hl
    go_enter Tryd.func26, Tryd.ntmps26
    go_wp2
    go_ret
    exact ⟨by first | rfl | (rw [h1]; rfl) | simp, rfl⟩
theorem pref_any (l : List UInt8) (c : UInt8) (w : World) (hl : l.length ≤ 1000000) :
    Calls Tryd.prog 18 #[.string (bs l), .string (bs [c])] w fun e w' => e = .returned (.bool (hp c l)) ∧ w' = w := by
  go_enter Tryd.func18, Tryd.ntmps18
  go_wp2_with (go_at_call 26; refine (prefLite_any l c _ hl).mono ?_; rintro e w' ⟨rfl, rfl⟩)
  go_ret
  exact ⟨rfl, rfl⟩

end Go.Proofs.YtfhoimfjfbbhaaaDoor

/-
  The landed readExp, walked.
-/
namespace Go.Proofs.YtfhoimfjfbbhaaaDoor
set_option maxRecDepth 100000
open Go.RowKit Txt

def cl (x : Int) : Int := max (min x 40000) (-40000)
def expV : Option Int → Value
  | none => .tuple #[.int .i64 0, .bool false]
  | some x => .tuple #[.int .i64 (cl x), .bool true]
theorem int_eq {k : IntKind} {a b : Int} (h : a = b) : Value.int k a = Value.int k b := by rw [h]
theorem ret_pair {a b : Int} {p q : Bool} (h : a = b) (h2 : p = q) : Ending.returned (.tuple #[.int .i64 a, .bool p]) = .returned (.tuple #[.int .i64 b, .bool q]) := by rw [h, h2]
theorem expV_none {neg : Bool} {t : List UInt8} (h : expD neg t = none) : expV (expD neg t) = .tuple #[.int .i64 0, .bool false] := by rw [h]; rfl
theorem emp_bs (l : List UInt8) : (bs l).toList.isEmpty = l.isEmpty := by rw [bs_toList]
theorem dv_take {D : List UInt8} {k : Nat} (h : k < D.length) : dv (D.take (k + 1)) 0 = dv (D.take k) 0 * 10 + (D[k].toNat - 48) := by
  rw [List.take_succ_eq_append_getElem h, dv_snoc]
theorem isD_get {D : List UInt8} (hD : AllD D) {k : Nat} (h : k < D.length) : 48 ≤ D[k].toNat ∧ D[k].toNat ≤ 57 := by
  have := hD D[k] (List.getElem_mem h)
  unfold isD at this
  simpa using this
theorem min_step {x n d : Nat} (h : x = min n 40000) : min (10 * x + d) 40000 = min (n * 10 + d) 40000 := by omega

set_option maxHeartbeats 4000000 in
theorem readExp_loop (s : ByteArray) (r t : List UInt8) (neg bm bp : Bool) (w : World) (hpos : 0 < s.size) (hsz : s.size ≤ 1000000) (hc : (s[0].toNat : Int) = 101 ∨ (s[0].toNat : Int) = 69) (hx1 : s.extract 1 s.size = bs r)
    (hcase : (neg = true ∧ bm = true ∧ 0 < (bs r).size ∧ (bs r).size ≤ 1000000 ∧ (bs r).extract 1 (bs r).size = bs t) ∨ (neg = false ∧ bm = false ∧ bp = true ∧ 0 < (bs r).size ∧ (bs r).size ≤ 1000000 ∧ (bs r).extract 1 (bs r).size = bs t) ∨ (neg = false ∧ bm = false ∧ bp = false ∧ r = t))
    (HPm : Hid (∀ w, Calls Tryd.prog 18 #[.string (bs r), .string ⟨#[45]⟩] w fun e w' => e = .returned (.bool bm) ∧ w' = w))
    (HPp : Hid (∀ w, Calls Tryd.prog 18 #[.string (bs r), .string ⟨#[43]⟩] w fun e w' => e = .returned (.bool bp) ∧ w' = w))
    (sD sR : ByteArray) (F : Nat → Nat) (V : Nat)
    (HCt : Hid (∀ w, Calls Tryd.prog 34 #[.string (bs t)] w fun e w' => e = .returned (.tuple #[.string sD, .string sR]) ∧ ∃ q, w' = w.drewN q))
    (he : sD.toList.isEmpty = false) (he2 : sR.toList.isEmpty = true)
    (HG : Hid (∀ k (h : k < sD.size), (48 ≤ (sD[k].toNat : Int) ∧ (sD[k].toNat : Int) ≤ 57) ∧ F (k + 1) = F k * 10 + (sD[k].toNat - 48)))
    (HN : Hid (F sD.size = V)) (HF0 : Hid (F 0 = 0)) (hsD : sD.size ≤ 1000000) :
    Calls Tryd.prog 35 #[.string s] w fun e w' => e = .returned (.tuple #[.int .i64 (cl (if neg then -(V : Int) else V)), .bool true]) ∧ ∃ q, w' = w.drewN q := by
  rcases hc with hc | hc <;> rcases hcase with ⟨rfl, rfl, hp1, hp2, hx2⟩ | ⟨rfl, rfl, rfl, hp1, hp2, hx2⟩ | ⟨rfl, rfl, rfl, rfl⟩
  all_goals
    go_enter Tryd.func35, Tryd.ntmps35
    go_wp2_with (first
      | (go_at_call 18; refine (HPm.out _).mono ?_; rintro e w' ⟨rfl, rfl⟩)
      | (go_at_call 18; refine (HPp.out _).mono ?_; rintro e w' ⟨rfl, rfl⟩)
      | (go_at_call 34; refine (HCt.out _).mono ?_; rintro e w' ⟨rfl, q, rfl⟩))
    go_loop [7, 41] (fun t7 t41 => ∃ (k x : Nat), k ≤ sD.size ∧ t41 = .int .i64 k ∧ t7 = .int .i64 x ∧ x ≤ 40000 ∧ Hid (x = min (F k) 40000)) (fun _ t41 => sD.size - (intOf t41).toNat)
    case atStart => exact ⟨0, 0, Nat.zero_le _, rfl, rfl, by omega, by show 0 = min (F 0) 40000; rw [HF0.out]; rfl⟩
    case round =>
      obtain ⟨k, x, hk, rfl, rfl, hx, HI⟩ := hrel
      by_cases hlt : k < sD.size
      · obtain ⟨⟨g1, g2⟩, g3⟩ := HG.out k hlt
        have HS : Hid (min (10 * x + (sD[k].toNat - 48)) 40000 = min (F (k + 1)) 40000) := by
          show _ = _
          rw [g3]; exact min_step HI.out
        clear g3
        go_wp2
        all_goals
          go_round
          case rel => exact ⟨k + 1, min (10 * x + (sD[k].toNat - 48)) 40000, by omega, by go_num, int_eq (by omega), by omega, HS.out⟩
          case measure => simp [intOf]; omega
      · have hke : k = sD.size := by omega
        have HX : Hid (x = min V 40000) := by
          have := HI.out
          rw [hke, HN.out] at this
          exact this
        go_wp2
        go_ret2
        exact ⟨ret_pair (by have := HX.out; unfold cl; omega) rfl, _, rfl⟩

set_option maxHeartbeats 4000000 in
theorem readExp_yes (s : ByteArray) (r t : List UInt8) (neg bm bp : Bool) (w : World) (hpos : 0 < s.size) (hsz : s.size ≤ 1000000) (hc : (s[0].toNat : Int) = 101 ∨ (s[0].toNat : Int) = 69) (hx1 : s.extract 1 s.size = bs r) (htl : t.length ≤ 1000000)
    (hcase : (neg = true ∧ bm = true ∧ 0 < (bs r).size ∧ (bs r).size ≤ 1000000 ∧ (bs r).extract 1 (bs r).size = bs t) ∨ (neg = false ∧ bm = false ∧ bp = true ∧ 0 < (bs r).size ∧ (bs r).size ≤ 1000000 ∧ (bs r).extract 1 (bs r).size = bs t) ∨ (neg = false ∧ bm = false ∧ bp = false ∧ r = t))
    (HPm : Hid (∀ w, Calls Tryd.prog 18 #[.string (bs r), .string ⟨#[45]⟩] w fun e w' => e = .returned (.bool bm) ∧ w' = w))
    (HPp : Hid (∀ w, Calls Tryd.prog 18 #[.string (bs r), .string ⟨#[43]⟩] w fun e w' => e = .returned (.bool bp) ∧ w' = w)) :
    Calls Tryd.prog 35 #[.string s] w fun e w' => e = .returned (expV (expD neg t)) ∧ ∃ q, w' = w.drewN q := by
  have HCt : Hid (∀ w, Calls Tryd.prog 34 #[.string (bs t)] w fun e w' => e = .returned (.tuple #[.string (bs (Txt.dig t)), .string (bs (rst t))]) ∧ ∃ q, w' = w.drewN q) := fun w => cut_any t w htl
  have he := emp_bs (Txt.dig t)
  have he2 := emp_bs (rst t)
  have hD : AllD (Txt.dig t) := allD_take t
  have hDl : (Txt.dig t).length ≤ 1000000 := by
    have := congrArg List.length (dig_rst t)
    rw [List.length_append] at this
    omega
  by_cases e1 : Txt.dig t = []
  · have hn : expD neg t = none := by unfold expD; rw [if_pos e1]
    rw [expV_none hn]
    rw [e1] at he HCt
    simp only [List.isEmpty_nil] at he
    clear hn e1 he2 hD hDl
    rcases hc with hc | hc <;> rcases hcase with ⟨rfl, rfl, hp1, hp2, hx2⟩ | ⟨rfl, rfl, rfl, hp1, hp2, hx2⟩ | ⟨rfl, rfl, rfl, rfl⟩
    all_goals
      go_enter Tryd.func35, Tryd.ntmps35
      go_wp2_with (first
        | (go_at_call 18; refine (HPm.out _).mono ?_; rintro e w' ⟨rfl, rfl⟩)
        | (go_at_call 18; refine (HPp.out _).mono ?_; rintro e w' ⟨rfl, rfl⟩)
        | (go_at_call 34; refine (HCt.out _).mono ?_; rintro e w' ⟨rfl, q, rfl⟩))
      go_ret2
      exact ⟨rfl, _, rfl⟩
  · by_cases e2 : rst t = []
    · have hv : expV (expD neg t) = .tuple #[.int .i64 (cl (if neg then -(dv (Txt.dig t) 0 : Int) else dv (Txt.dig t) 0)), .bool true] := by unfold expD; rw [if_neg e1, if_pos e2]; rfl
      rw [hv]
      have e3 : (Txt.dig t).isEmpty = false := by simpa using e1
      have e4 : (rst t).isEmpty = true := by simpa using e2
      rw [e3] at he
      rw [e4] at he2
      have hb1 := bs_size (Txt.dig t)
      have HG : Hid (∀ k (h : k < (bs (Txt.dig t)).size), (48 ≤ ((bs (Txt.dig t))[k].toNat : Int) ∧ ((bs (Txt.dig t))[k].toNat : Int) ≤ 57) ∧ dv ((Txt.dig t).take (k + 1)) 0 = dv ((Txt.dig t).take k) 0 * 10 + ((bs (Txt.dig t))[k].toNat - 48)) := by
        intro k h
        have h2 : k < (Txt.dig t).length := by omega
        rw [bs_get _ _ h]
        have := isD_get hD h2
        exact ⟨by omega, dv_take h2⟩
      have HN : Hid (dv ((Txt.dig t).take (bs (Txt.dig t)).size) 0 = dv (Txt.dig t) 0) := by show _ = _; rw [hb1, List.take_length]
      obtain ⟨V, hV⟩ : ∃ V, V = dv (Txt.dig t) 0 := ⟨_, rfl⟩
      rw [← hV] at HN ⊢
      obtain ⟨F, hF⟩ : ∃ F : Nat → Nat, F = fun k => dv ((Txt.dig t).take k) 0 := ⟨_, rfl⟩
      have HG2 : Hid (∀ k (h : k < (bs (Txt.dig t)).size), (48 ≤ ((bs (Txt.dig t))[k].toNat : Int) ∧ ((bs (Txt.dig t))[k].toNat : Int) ≤ 57) ∧ F (k + 1) = F k * 10 + ((bs (Txt.dig t))[k].toNat - 48)) := by rw [hF]; exact HG.out
      have HN2 : Hid (F (bs (Txt.dig t)).size = V) := by rw [hF]; exact HN.out
      have HF0 : Hid (F 0 = 0) := by rw [hF]; show dv _ 0 = 0; rw [List.take_zero]; rfl
      have hsD : (bs (Txt.dig t)).size ≤ 1000000 := by omega
      clear e1 e2 e3 e4 hD hDl hv hV hF HG HN hb1
      exact readExp_loop s r t neg bm bp w hpos hsz hc hx1 hcase HPm HPp (bs (Txt.dig t)) (bs (rst t)) F V HCt he he2 HG2 HN2 HF0 hsD
    · have hn : expD neg t = none := by unfold expD; rw [if_neg e1, if_neg e2]
      rw [expV_none hn]
      have e3 : (Txt.dig t).isEmpty = false := by simpa using e1
      have e4 : (rst t).isEmpty = false := by simpa using e2
      rw [e3] at he
      rw [e4] at he2
      clear hn e1 e2 e3 e4 hD hDl
      rcases hc with hc | hc <;> rcases hcase with ⟨rfl, rfl, hp1, hp2, hx2⟩ | ⟨rfl, rfl, rfl, hp1, hp2, hx2⟩ | ⟨rfl, rfl, rfl, rfl⟩
      all_goals
        go_enter Tryd.func35, Tryd.ntmps35
        go_wp2_with (first
          | (go_at_call 18; refine (HPm.out _).mono ?_; rintro e w' ⟨rfl, rfl⟩)
          | (go_at_call 18; refine (HPp.out _).mono ?_; rintro e w' ⟨rfl, rfl⟩)
          | (go_at_call 34; refine (HCt.out _).mono ?_; rintro e w' ⟨rfl, q, rfl⟩))
        go_ret2
        exact ⟨rfl, _, rfl⟩

end Go.Proofs.YtfhoimfjfbbhaaaDoor

/-
  The landed readExp of any text, and read, walked.
-/
namespace Go.Proofs.YtfhoimfjfbbhaaaDoor
set_option maxRecDepth 100000
open Go.RowKit Txt

set_option maxHeartbeats 400000 in
theorem readExp_no (s : ByteArray) (w : World) (hpos : 0 < s.size) (hc1 : ((s[0].toNat : Int) != 101) = true) (hc2 : ((s[0].toNat : Int) != 69) = true) :
    Calls Tryd.prog 35 #[.string s] w fun e w' => e = .returned (.tuple #[.int .i64 0, .bool false]) ∧ ∃ q, w' = w.drewN q := by
  go_enter Tryd.func35, Tryd.ntmps35
  go_wp2
  go_ret2
  exact ⟨rfl, 0, rfl⟩
theorem expo_cons (c : UInt8) (r : List UInt8) : Txt.expo (c :: r) = if c.toNat = 101 ∨ c.toNat = 69 then expS r else none := rfl
theorem expS_cons (c : UInt8) (r : List UInt8) : expS (c :: r) = if c.toNat = 45 then expD true r else if c.toNat = 43 then expD false r else expD false (c :: r) := rfl
theorem bs_tail (c : UInt8) (r : List UInt8) : (bs (c :: r)).extract 1 (bs (c :: r)).size = bs r := by
  rw [bs_extract, bs_size]; simp
theorem bs_head (c : UInt8) (r : List UInt8) (h : 0 < (bs (c :: r)).size) : (bs (c :: r))[0] = c := by
  rw [bs_get]; rfl
theorem byte_ne {a c : UInt8} (h : a.toNat ≠ c.toNat) : (a == c) = false := by
  rw [beq_eq_false_iff_ne]; intro e; exact h (by rw [e])
theorem byte_eq {a c : UInt8} (h : a.toNat = c.toNat) : (a == c) = true := by
  rw [beq_iff_eq]; exact UInt8.toNat_inj.1 h

theorem readExp_any (c : UInt8) (r : List UInt8) (w : World) (hl : r.length ≤ 999999) :
    Calls Tryd.prog 35 #[.string (bs (c :: r))] w fun e w' => e = .returned (expV (Txt.expo (c :: r))) ∧ ∃ q, w' = w.drewN q := by
  have hsz : (bs (c :: r)).size = r.length + 1 := bs_size _
  have hpos : 0 < (bs (c :: r)).size := by omega
  have hh := bs_head c r hpos
  by_cases he : c.toNat = 101 ∨ c.toNat = 69
  · have hx : Txt.expo (c :: r) = expS r := by rw [expo_cons, if_pos he]
    rw [hx]
    have hc : (((bs (c :: r))[0].toNat : Int) = 101 ∨ ((bs (c :: r))[0].toNat : Int) = 69) := by rw [hh]; omega
    have HM : ∀ w, Calls Tryd.prog 18 #[.string (bs r), .string ⟨#[45]⟩] w fun e w' => e = .returned (.bool (hp 45 r)) ∧ w' = w := fun w => pref_any r 45 w (by omega)
    have HP : ∀ w, Calls Tryd.prog 18 #[.string (bs r), .string ⟨#[43]⟩] w fun e w' => e = .returned (.bool (hp 43 r)) ∧ w' = w := fun w => pref_any r 43 w (by omega)
    cases r with
    | nil =>
      have := readExp_yes (bs (c :: [])) [] [] false false false w hpos (by omega) hc (bs_tail c []) (by simp) (Or.inr (Or.inr ⟨rfl, rfl, rfl, rfl⟩)) HM HP
      exact this
    | cons a q =>
      have hq : (bs (a :: q)).size = q.length + 1 := bs_size _
      have hql : q.length + 1 ≤ 999999 := by simpa using hl
      by_cases h45 : a.toNat = 45
      · have e1 : hp 45 (a :: q) = true := byte_eq h45
        rw [e1] at HM
        have := readExp_yes (bs (c :: a :: q)) (a :: q) q true true _ w hpos (by rw [hsz]; omega) hc (bs_tail c _) (by omega) (Or.inl ⟨rfl, rfl, by omega, by omega, bs_tail a q⟩) HM HP
        rw [expS_cons, if_pos h45]
        exact this
      · have e1 : hp 45 (a :: q) = false := byte_ne h45
        rw [e1] at HM
        by_cases h43 : a.toNat = 43
        · have e2 : hp 43 (a :: q) = true := byte_eq h43
          rw [e2] at HP
          have := readExp_yes (bs (c :: a :: q)) (a :: q) q false false true w hpos (by rw [hsz]; omega) hc (bs_tail c _) (by omega) (Or.inr (Or.inl ⟨rfl, rfl, rfl, by omega, by omega, bs_tail a q⟩)) HM HP
          rw [expS_cons, if_neg h45, if_pos h43]
          exact this
        · have e2 : hp 43 (a :: q) = false := byte_ne h43
          rw [e2] at HP
          have := readExp_yes (bs (c :: a :: q)) (a :: q) (a :: q) false false false w hpos (by rw [hsz]; omega) hc (bs_tail c _) (by omega) (Or.inr (Or.inr ⟨rfl, rfl, rfl, rfl⟩)) HM HP
          rw [expS_cons, if_neg h45, if_neg h43]
          exact this
  · have hx : Txt.expo (c :: r) = none := by rw [expo_cons, if_neg he]
    rw [hx]
    exact readExp_no _ w hpos (by rw [hh, bne_iff_ne]; omega) (by rw [hh, bne_iff_ne]; omega)

theorem below_box (w : World) (o : Obj) (q : Nat) (a b : Value) : Below w.heap.size w ((((w.alloc o).drewN q).setCell ⟨w.heap.size, 0, none⟩ a).setCell ⟨w.heap.size, 1, none⟩ b) :=
  ((below_drewN ((Below.refl _ _).alloc (Nat.le_refl _) _) q).setCell (p := ⟨w.heap.size, 0, none⟩) (Nat.le_refl _) _).setCell (p := ⟨w.heap.size, 1, none⟩) (Nat.le_refl _) _
/-- What the program holds for an exponent. -/
def Held (x E : Int) : Prop := x = E ∨ (39000 ≤ x ∧ 39000 ≤ E ∧ x ≤ 41000) ∨ (x ≤ -39000 ∧ E ≤ -39000 ∧ -41000 ≤ x)
theorem held_cl (e : Int) (k : Nat) (hk : k ≤ 400) : Held (-(k : Int) + cl e) (e - k) := by unfold Held cl; omega
theorem held_cl0 (e : Int) : Held (cl e) e := by unfold Held cl; omega
theorem cl_range (e : Int) : -40000 ≤ cl e ∧ cl e ≤ 40000 := by unfold cl; omega

set_option maxHeartbeats 1000000 in
theorem read_A (s sd sr : ByteArray) (w : World) (HC : Hid (∀ w, Calls Tryd.prog 34 #[.string s] w fun e w' => e = .returned (.tuple #[.string sd, .string sr]) ∧ ∃ q, w' = w.drewN q))
    (he : sd.toList.isEmpty = true) :
    Calls Tryd.prog 32 #[.string s] w fun e w' => e = .returned (.tuple #[.agg #[.string ⟨#[]⟩, .int .i64 0], .bool false]) ∧ Below w.heap.size w w' := by
  go_enter Tryd.func32, Tryd.ntmps32
  go_wp2_with (first
    | (go_at_call 34; refine (HC.out _).mono ?_; rintro e w' ⟨rfl, q1, rfl⟩))
  refine bodyPost_ret (v := .tuple #[.agg #[.string ⟨#[]⟩, .int .i64 0], .bool false]) (by simp [results, Tryd.results32, go_sem]) rfl ⟨rfl, ?_⟩
  exact below_box _ _ _ _ _

set_option maxHeartbeats 1000000 in
theorem read_B (s sd sr : ByteArray) (w : World) (HC : Hid (∀ w, Calls Tryd.prog 34 #[.string s] w fun e w' => e = .returned (.tuple #[.string sd, .string sr]) ∧ ∃ q, w' = w.drewN q))
    (he : sd.toList.isEmpty = false) (HP : Hid (∀ w, Calls Tryd.prog 18 #[.string sr, .string ⟨#[46]⟩] w fun e w' => e = .returned (.bool false) ∧ w' = w)) (hr : sr.toList.isEmpty = true) :
    Calls Tryd.prog 32 #[.string s] w fun e w' => e = .returned (.tuple #[.agg #[.string sd, .int .i64 0], .bool true]) ∧ Below w.heap.size w w' := by
  go_enter Tryd.func32, Tryd.ntmps32
  go_wp2_with (first
    | (go_at_call 34; refine (HC.out _).mono ?_; rintro e w' ⟨rfl, q1, rfl⟩)
    | (go_at_call 18; refine (HP.out _).mono ?_; rintro e w' ⟨rfl, rfl⟩))
  refine bodyPost_ret (v := .tuple #[.agg #[.string sd, .int .i64 0], .bool true]) (by simp [results, Tryd.results32, go_sem]) rfl ⟨rfl, ?_⟩
  exact below_box _ _ _ _ _

set_option maxHeartbeats 1000000 in
theorem read_C (s sd sr : ByteArray) (x : Int) (w : World) (HC : Hid (∀ w, Calls Tryd.prog 34 #[.string s] w fun e w' => e = .returned (.tuple #[.string sd, .string sr]) ∧ ∃ q, w' = w.drewN q))
    (he : sd.toList.isEmpty = false) (HP : Hid (∀ w, Calls Tryd.prog 18 #[.string sr, .string ⟨#[46]⟩] w fun e w' => e = .returned (.bool false) ∧ w' = w)) (hr : sr.toList.isEmpty = false) (HE : Hid (∀ w, Calls Tryd.prog 35 #[.string sr] w fun e w' => e = .returned (.tuple #[.int .i64 x, .bool true]) ∧ ∃ q, w' = w.drewN q)) (hx1 : -40000 ≤ x) (hx2 : x ≤ 40000) :
    Calls Tryd.prog 32 #[.string s] w fun e w' => e = .returned (.tuple #[.agg #[.string sd, .int .i64 x], .bool true]) ∧ Below w.heap.size w w' := by
  go_enter Tryd.func32, Tryd.ntmps32
  go_wp2_with (first
    | (go_at_call 34; refine (HC.out _).mono ?_; rintro e w' ⟨rfl, q1, rfl⟩)
    | (go_at_call 18; refine (HP.out _).mono ?_; rintro e w' ⟨rfl, rfl⟩)
    | (go_at_call 35; refine (HE.out _).mono ?_; rintro e w' ⟨rfl, q3, rfl⟩))
  refine bodyPost_ret (v := .tuple #[.agg #[.string sd, .int .i64 x], .bool true]) (by simp [results, Tryd.results32, go_sem]) rfl ⟨rfl, ?_⟩
  exact below_box _ _ _ _ _

set_option maxHeartbeats 1000000 in
theorem read_Cn (s sd sr : ByteArray) (x : Int) (w : World) (HC : Hid (∀ w, Calls Tryd.prog 34 #[.string s] w fun e w' => e = .returned (.tuple #[.string sd, .string sr]) ∧ ∃ q, w' = w.drewN q))
    (he : sd.toList.isEmpty = false) (HP : Hid (∀ w, Calls Tryd.prog 18 #[.string sr, .string ⟨#[46]⟩] w fun e w' => e = .returned (.bool false) ∧ w' = w)) (hr : sr.toList.isEmpty = false) (HE : Hid (∀ w, Calls Tryd.prog 35 #[.string sr] w fun e w' => e = .returned (.tuple #[.int .i64 x, .bool false]) ∧ ∃ q, w' = w.drewN q)) :
    Calls Tryd.prog 32 #[.string s] w fun e w' => e = .returned (.tuple #[.agg #[.string ⟨#[]⟩, .int .i64 0], .bool false]) ∧ Below w.heap.size w w' := by
  go_enter Tryd.func32, Tryd.ntmps32
  go_wp2_with (first
    | (go_at_call 34; refine (HC.out _).mono ?_; rintro e w' ⟨rfl, q1, rfl⟩)
    | (go_at_call 18; refine (HP.out _).mono ?_; rintro e w' ⟨rfl, rfl⟩)
    | (go_at_call 35; refine (HE.out _).mono ?_; rintro e w' ⟨rfl, q3, rfl⟩))
  refine bodyPost_ret (v := .tuple #[.agg #[.string ⟨#[]⟩, .int .i64 0], .bool false]) (by simp [results, Tryd.results32, go_sem]) rfl ⟨rfl, ?_⟩
  exact below_box _ _ _ _ _

set_option maxHeartbeats 400000 in
theorem read_D (s sd sr ss sb st : ByteArray) (w : World) (HC : Hid (∀ w, Calls Tryd.prog 34 #[.string s] w fun e w' => e = .returned (.tuple #[.string sd, .string sr]) ∧ ∃ q, w' = w.drewN q))
    (he : sd.toList.isEmpty = false) (HP : Hid (∀ w, Calls Tryd.prog 18 #[.string sr, .string ⟨#[46]⟩] w fun e w' => e = .returned (.bool true) ∧ w' = w)) (hpos : 0 < sr.size) (hsz : sr.size ≤ 1000000) (hsx : sr.extract 1 sr.size = ss) (HC2 : Hid (∀ w, Calls Tryd.prog 34 #[.string ss] w fun e w' => e = .returned (.tuple #[.string sb, .string st]) ∧ ∃ q, w' = w.drewN q)) (hb : sb.toList.isEmpty = true) :
    Calls Tryd.prog 32 #[.string s] w fun e w' => e = .returned (.tuple #[.agg #[.string ⟨#[]⟩, .int .i64 0], .bool false]) ∧ Below w.heap.size w w' := by
  go_enter Tryd.func32, Tryd.ntmps32
  go_wp2_with fail
  refine (HC.out _).mono ?_
  rintro e w' ⟨rfl, q1, rfl⟩
  go_wp2_with fail
  refine (HP.out _).mono ?_
  rintro e w' ⟨rfl, rfl⟩
  go_wp2_with fail
  refine (HC2.out _).mono ?_
  rintro e w' ⟨rfl, q2, rfl⟩
  go_wp2_with fail
  refine bodyPost_ret (v := .tuple #[.agg #[.string ⟨#[]⟩, .int .i64 0], .bool false]) (by simp [results, Tryd.results32, go_sem]) rfl ⟨rfl, ?_⟩
  exact below_box _ _ _ _ _

set_option maxHeartbeats 1000000 in
theorem read_E (s sd sr ss sb st : ByteArray) (w : World) (HC : Hid (∀ w, Calls Tryd.prog 34 #[.string s] w fun e w' => e = .returned (.tuple #[.string sd, .string sr]) ∧ ∃ q, w' = w.drewN q))
    (he : sd.toList.isEmpty = false) (HP : Hid (∀ w, Calls Tryd.prog 18 #[.string sr, .string ⟨#[46]⟩] w fun e w' => e = .returned (.bool true) ∧ w' = w)) (hpos : 0 < sr.size) (hsz : sr.size ≤ 1000000) (hsx : sr.extract 1 sr.size = ss) (HC2 : Hid (∀ w, Calls Tryd.prog 34 #[.string ss] w fun e w' => e = .returned (.tuple #[.string sb, .string st]) ∧ ∃ q, w' = w.drewN q)) (hb : sb.toList.isEmpty = false) (hdl : sd.size ≤ 1000000) (hbl : sb.size ≤ 1000000) (hr : st.toList.isEmpty = true) :
    Calls Tryd.prog 32 #[.string s] w fun e w' => e = .returned (.tuple #[.agg #[.string (sd ++ sb), .int .i64 (-(sb.size : Int))], .bool true]) ∧ Below w.heap.size w w' := by
  go_enter Tryd.func32, Tryd.ntmps32
  go_wp2_with fail
  refine (HC.out _).mono ?_
  rintro e w' ⟨rfl, q1, rfl⟩
  go_wp2_with fail
  refine (HP.out _).mono ?_
  rintro e w' ⟨rfl, rfl⟩
  go_wp2_with fail
  refine (HC2.out _).mono ?_
  rintro e w' ⟨rfl, q2, rfl⟩
  go_wp2_with fail
  refine bodyPost_ret (v := .tuple #[.agg #[.string (sd ++ sb), .int .i64 (-(sb.size : Int))], .bool true]) (by simp [results, Tryd.results32, go_sem]) rfl ⟨rfl, ?_⟩
  exact below_box _ _ _ _ _

set_option maxHeartbeats 1000000 in
theorem read_F (s sd sr ss sb st : ByteArray) (x : Int) (w : World) (HC : Hid (∀ w, Calls Tryd.prog 34 #[.string s] w fun e w' => e = .returned (.tuple #[.string sd, .string sr]) ∧ ∃ q, w' = w.drewN q))
    (he : sd.toList.isEmpty = false) (HP : Hid (∀ w, Calls Tryd.prog 18 #[.string sr, .string ⟨#[46]⟩] w fun e w' => e = .returned (.bool true) ∧ w' = w)) (hpos : 0 < sr.size) (hsz : sr.size ≤ 1000000) (hsx : sr.extract 1 sr.size = ss) (HC2 : Hid (∀ w, Calls Tryd.prog 34 #[.string ss] w fun e w' => e = .returned (.tuple #[.string sb, .string st]) ∧ ∃ q, w' = w.drewN q)) (hb : sb.toList.isEmpty = false) (hdl : sd.size ≤ 1000000) (hbl : sb.size ≤ 1000000) (hr : st.toList.isEmpty = false) (HE : Hid (∀ w, Calls Tryd.prog 35 #[.string st] w fun e w' => e = .returned (.tuple #[.int .i64 x, .bool true]) ∧ ∃ q, w' = w.drewN q)) (hx1 : -40000 ≤ x) (hx2 : x ≤ 40000) :
    Calls Tryd.prog 32 #[.string s] w fun e w' => e = .returned (.tuple #[.agg #[.string (sd ++ sb), .int .i64 (-(sb.size : Int) + x)], .bool true]) ∧ Below w.heap.size w w' := by
  go_enter Tryd.func32, Tryd.ntmps32
  go_wp2_with fail
  refine (HC.out _).mono ?_
  rintro e w' ⟨rfl, q1, rfl⟩
  go_wp2_with fail
  refine (HP.out _).mono ?_
  rintro e w' ⟨rfl, rfl⟩
  go_wp2_with fail
  refine (HC2.out _).mono ?_
  rintro e w' ⟨rfl, q2, rfl⟩
  go_wp2_with fail
  refine (HE.out _).mono ?_
  rintro e w' ⟨rfl, q3, rfl⟩
  go_wp2_with fail
  refine bodyPost_ret (v := .tuple #[.agg #[.string (sd ++ sb), .int .i64 (-(sb.size : Int) + x)], .bool true]) (by simp [results, Tryd.results32, go_sem]) rfl ⟨rfl, ?_⟩
  exact below_box _ _ _ _ _

set_option maxHeartbeats 1000000 in
theorem read_Fn (s sd sr ss sb st : ByteArray) (x : Int) (w : World) (HC : Hid (∀ w, Calls Tryd.prog 34 #[.string s] w fun e w' => e = .returned (.tuple #[.string sd, .string sr]) ∧ ∃ q, w' = w.drewN q))
    (he : sd.toList.isEmpty = false) (HP : Hid (∀ w, Calls Tryd.prog 18 #[.string sr, .string ⟨#[46]⟩] w fun e w' => e = .returned (.bool true) ∧ w' = w)) (hpos : 0 < sr.size) (hsz : sr.size ≤ 1000000) (hsx : sr.extract 1 sr.size = ss) (HC2 : Hid (∀ w, Calls Tryd.prog 34 #[.string ss] w fun e w' => e = .returned (.tuple #[.string sb, .string st]) ∧ ∃ q, w' = w.drewN q)) (hb : sb.toList.isEmpty = false) (hdl : sd.size ≤ 1000000) (hbl : sb.size ≤ 1000000) (hr : st.toList.isEmpty = false) (HE : Hid (∀ w, Calls Tryd.prog 35 #[.string st] w fun e w' => e = .returned (.tuple #[.int .i64 x, .bool false]) ∧ ∃ q, w' = w.drewN q)) :
    Calls Tryd.prog 32 #[.string s] w fun e w' => e = .returned (.tuple #[.agg #[.string ⟨#[]⟩, .int .i64 0], .bool false]) ∧ Below w.heap.size w w' := by
  go_enter Tryd.func32, Tryd.ntmps32
  go_wp2_with fail
  refine (HC.out _).mono ?_
  rintro e w' ⟨rfl, q1, rfl⟩
  go_wp2_with fail
  refine (HP.out _).mono ?_
  rintro e w' ⟨rfl, rfl⟩
  go_wp2_with fail
  refine (HC2.out _).mono ?_
  rintro e w' ⟨rfl, q2, rfl⟩
  go_wp2_with fail
  refine (HE.out _).mono ?_
  rintro e w' ⟨rfl, q3, rfl⟩
  go_wp2_with fail
  refine bodyPost_ret (v := .tuple #[.agg #[.string ⟨#[]⟩, .int .i64 0], .bool false]) (by simp [results, Tryd.results32, go_sem]) rfl ⟨rfl, ?_⟩
  exact below_box _ _ _ _ _

end Go.Proofs.YtfhoimfjfbbhaaaDoor

/-
  The statements' own small living call.
-/
namespace Go.Proofs.YtfhoimfjfbbhaaaDoor
set_option maxRecDepth 100000
open Go.RowKit Flo

theorem lives_make : makeZ false (-52) 4503599627370496 false = 4607182418800017408 := by decide +kernel
theorem lives_kind : kindZ 1 = 1 := by decide
theorem lives_less : lessB 0 1 = true := by decide

end Go.Proofs.YtfhoimfjfbbhaaaDoor

/-
  The walks of the reference's small functions: Kind, Neg, Nan, Canon, Order, Less, Equal, Before.
-/
namespace Go.Proofs.YtfhoimfjfbbhaaaDoor
set_option maxRecDepth 100000
open Go.RowKit Flo

theorem ret_i64 {a b : Int} (h : a = b) : Ending.returned (.int .i64 a) = .returned (.int .i64 b) := by rw [h]
theorem ret_bool {a b : Bool} (h : a = b) : Ending.returned (.bool a) = .returned (.bool b) := by rw [h]

def expo (a : Int) : Int := a / 4503599627370496 % 2048
def frac (a : Int) : Int := a % 4503599627370496

theorem and_expo {a : Int} (h : U64 a) : bits .and .u64 (a / 4503599627370496) 2047 = expo a := by
  obtain ⟨h0, h1⟩ := h
  rw [u64_and _ _ (by omega) (by omega) (by decide) (by decide), show (2047 : Int).toNat = 2 ^ 11 - 1 from rfl, Nat.and_two_pow_sub_one_eq_mod]
  unfold expo
  omega
theorem and_frac {a : Int} (h : U64 a) : bits .and .u64 a 4503599627370495 = frac a := by
  obtain ⟨h0, h1⟩ := h
  rw [u64_and _ _ h0 h1 (by decide) (by decide), show (4503599627370495 : Int).toNat = 2 ^ 52 - 1 from by decide, Nat.and_two_pow_sub_one_eq_mod]
  unfold frac
  omega
theorem mag_parts {a : Int} (h : U64 a) : mag a = expo a * 4503599627370496 + frac a ∧ 0 ≤ expo a ∧ expo a ≤ 2047 ∧ 0 ≤ frac a ∧ frac a < 4503599627370496 := by
  obtain ⟨h0, h1⟩ := h
  unfold mag expo frac
  refine ⟨?_, by omega, by omega, by omega, by omega⟩
  split <;> omega

theorem kind_nan (a : Int) : (kindZ a == 4) = nanB a := by
  unfold kindZ nanB
  split
  · rw [decide_eq_true (by assumption)]; rfl
  · rw [decide_eq_false (by assumption)]
    (repeat' split) <;> rfl
theorem kind_zero (a : Int) : (kindZ a == 0) = decide (mag a = 0) := by
  unfold kindZ
  split
  · rw [decide_eq_false (by omega)]; rfl
  · split
    · rw [decide_eq_true (by assumption)]; rfl
    · rw [decide_eq_false (by assumption)]
      (repeat' split) <;> rfl
theorem kind_not_nan (a : Int) : (kindZ a != 4) = !nanB a := by rw [bne, kind_nan]

/-- How two numbers stand to one another, as -1, 0, 1. -/
def orderZ (a b : Int) : Int := if sv a < sv b then -1 else if sv a = sv b then 0 else 1

theorem sv_below {a : Int} (h : belowB a = true) : sv a = -mag a := by
  have := of_decide_eq_true (show decide (9223372036854775808 ≤ a) = true from h)
  unfold sv mag; rw [if_pos this, if_pos this]; omega
theorem sv_above {a : Int} (h : belowB a = false) : sv a = mag a := by
  have := of_decide_eq_false (show decide (9223372036854775808 ≤ a) = false from h)
  unfold sv mag; rw [if_neg this, if_neg this]

theorem order_lt (a b : Int) : decide (orderZ a b < 0) = decide (sv a < sv b) := by
  unfold orderZ; rw [decide_eq_decide]; (repeat' split) <;> omega
theorem order_eq0 (a b : Int) : (orderZ a b == 0) = decide (sv a = sv b) := by
  unfold orderZ; rw [Bool.eq_iff_iff, beq_iff_eq, decide_eq_true_eq]; (repeat' split) <;> omega

end Go.Proofs.YtfhoimfjfbbhaaaDoor

/-
  The walks of the reference's Before and Parts, and of the program's Parts.
-/
namespace Go.Proofs.YtfhoimfjfbbhaaaDoor
set_option maxRecDepth 100000
open Go.RowKit Flo

theorem before_alt {a b : Int} (ha : U64 a) (hb : U64 b) (na : nanB a = false) (nb : nanB b = false) :
    beforeB a b = if mag a = 0 ∧ mag b = 0 then belowB a && !belowB b else decide (sv a < sv b) := by
  obtain ⟨a0, a1⟩ := ha
  obtain ⟨b0, b1⟩ := hb
  unfold beforeB
  rw [na, nb]
  simp only [Bool.false_eq_true, if_false]
  by_cases c : mag a = 0 ∧ mag b = 0
  · rw [if_pos c, if_pos]
    obtain ⟨c1, c2⟩ := c
    unfold sv
    unfold mag at c1 c2
    split <;> split <;> omega
  · rw [if_neg c]
    split
    · rename_i e
      have : belowB a = belowB b := by
        unfold belowB
        rw [decide_eq_decide]
        unfold sv at e
        unfold mag at c
        split at e <;> split at e <;> omega
      rw [this, decide_eq_false (by omega)]
      cases belowB b <;> rfl
    · rfl

/-- A number's power of two and whole number. -/
def pexp (a : Int) : Int := if kindZ a = 1 then -1074 else if kindZ a = 2 then expo a - 1075 else 0
def pfrac (a : Int) : Int := if kindZ a = 1 then frac a else if kindZ a = 2 then frac a + 4503599627370496 else 0

theorem kind_vals (a : Int) : kindZ a = 0 ∨ kindZ a = 1 ∨ kindZ a = 2 ∨ kindZ a = 3 ∨ kindZ a = 4 := by
  unfold kindZ; (repeat' split) <;> simp

theorem or_hidden {a : Int} (h0 : 0 ≤ frac a) (h1 : frac a < 4503599627370496) : bits .or .u64 (frac a) 4503599627370496 = frac a + 4503599627370496 := by
  rw [u64_or _ _ h0 (by omega) (by decide) (by decide), Nat.or_comm, show (4503599627370496 : Int).toNat = 4503599627370496 from rfl, nat_join 52 _ _ (by decide) (by omega)]
  omega

end Go.Proofs.YtfhoimfjfbbhaaaDoor
