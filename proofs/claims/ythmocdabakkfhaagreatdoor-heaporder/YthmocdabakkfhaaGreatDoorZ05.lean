/-
  DigRef2
-/
import Derived.Deep.DeepCutAuto
import Derived.Test.YthmocdabakkfhaaGreatDoorZ04

/-
  The walk of the reference's Round, its main road.
-/
namespace Go.Proofs.YthmocdabakkfhaaGreatDoor
set_option maxRecDepth 100000
open Go.RowKit Dg Flo

set_option maxRecDepth 100000 in
set_option maxHeartbeats 4000000 in
theorem round_main (v : Value) (N l n X q low Q T : Nat) (exp dr : Int) (more neg b fe : Bool) (w : World) (hD : D w v N l) (hl : l ≤ 1048576) (hn : blen N = n) (hn2 : n ≤ 16777216) (e1 : -16777216 ≤ exp) (e2 : exp ≤ 16777216) (n0 : n ≠ 0)
    (h1 : -1100 ≤ (n : Int) + exp) (h2 : (n : Int) + exp ≤ 1100) (hdr : dr = max ((n : Int) - 53) (-1074 - exp))
    (hfe : 2 ≤ dr → fe = decide (N % 2 ^ (dr - 2).toNat ≠ 0)) (hb : b = if 2 ≤ dr then (more || fe) else more) (hX : X = rX N dr) (hX2 : X < 36028797018963968) (hq : q = X / 4) (hlow : low = X % 4) (hQ : Q = rQ X b) (hQ2 : Q ≤ 9007199254740992) (hQ3 : -1074 < exp + dr → 4503599627370496 ≤ Q)
    (hT : T = min ((exp + dr + 1074).toNat * 4503599627370496 + Q) 9218868437227405312) :
    Calls Tryz.prog 70 #[.bool neg, .int .i64 exp, v, .bool more] w fun e w' => e = .returned (.int .u64 (sgn neg + (T : Int))) ∧ Below w.heap.size w w' := by
  have HT : Hid (T = min ((exp + dr + 1074).toNat * 4503599627370496 + Q) 9218868437227405312) := hT
  clear hT
  have HL : Hid (∀ w, D w v N l → Calls Tryz.prog 81 #[v] w fun e w' => e = .returned (.int .i64 n) ∧ w' = w) := len_n v N l n hn (by omega)
  have HI : Hid (∀ w, Calls Tryz.prog 83 #[.bool neg] w fun e w' => e = .returned (.int .u64 (sgn neg + 9218868437227405312)) ∧ w' = w) := by
    show ∀ w, _
    cases neg <;> exact refInf_any _
  have HS : Hid (∀ w, Calls Tryz.prog 82 #[.bool neg] w fun e w' => e = .returned (.int .u64 (sgn neg)) ∧ w' = w) := refSign_any neg
  have HD : Hid (2 ≤ dr → ∀ w, D w v N l → Calls Tryz.prog 84 #[v, .int .i64 (dr - 2)] w fun e w' => ∃ v', e = .returned (.tuple #[v', .bool fe]) ∧ D w' v' X (dlen X) ∧ Below w.heap.size w w') := by
    intro hd2 w h
    have := down_any v N l (dr - 2).toNat w h (by omega) (by omega)
    have hX' : X = N / 2 ^ (dr - 2).toNat := by rw [hX]; unfold rX; rw [if_pos hd2]
    rw [← hfe hd2, ← hX', show (((dr - 2).toNat : Nat) : Int) = dr - 2 by omega] at this
    exact this
  have HU : Hid (dr < 2 → ∀ w, D w v N l → Calls Tryz.prog 85 #[v, .int .i64 (2 - dr)] w fun e w' => ∃ v', e = .returned v' ∧ D w' v' X (dlen X) ∧ Below w.heap.size w w') := by
    intro hd2 w h
    have := up_any v N l (2 - dr).toNat w h (by omega) (by omega)
    have hX' : X = N * 2 ^ (2 - dr).toNat := by rw [hX]; unfold rX; rw [if_neg (by omega)]
    rw [← hX', show (((2 - dr).toNat : Nat) : Int) = 2 - dr by omega] at this
    exact this
  have HP : Hid (∀ w u l', D w u X l' → Calls Tryz.prog 86 #[u] w fun e w' => e = .returned (.int .u64 X) ∧ w' = w) := fun w u l' h => small_any u X l' w h (by omega)
  have hl4 : low < 4 := by rw [hlow]; exact Nat.mod_lt _ (by decide)
  have hq53 : q < 9007199254740992 := by rw [hq]; exact (Nat.div_lt_iff_lt_mul (by decide)).2 (by omega)
  have t1 : bits .and .u64 (X : Int) 3 = (low : Int) := by rw [and3 X (by omega), hlow]
  have t2 : (X : Int) / 4 = (q : Int) := by rw [hq]; rfl
  have hup : Q = q + (decide (2 < low ∨ (low = 2 ∧ (b = true ∨ q % 2 = 1)))).toNat := by rw [hQ]; unfold rQ rUp; rw [hlow, hq]
  have nz : ((n : Int) == 0) = false := by rw [beq_eq_false_iff_ne]; omega
  have hdr2 : -1074 ≤ exp + dr := by omega
  have hdr3 : dr ≤ 16777216 + 16777216 := by omega
  have hdr4 : -53 ≤ dr := by omega
  have HB : Hid (b = if 2 ≤ dr then (more || fe) else more) := hb
  have HR : Hid (dr = max ((n : Int) - 53) (-1074 - exp)) := hdr
  clear hn hfe hX hQ hlow hq hb hdr
  obtain ⟨up, hQu, hC5⟩ : ∃ up : Bool, Q = q + up.toNat ∧ ((up = true ∧ low = 3) ∨ (up = true ∧ low = 2 ∧ b = true) ∨ (up = true ∧ low = 2 ∧ b = false ∧ q % 2 = 1) ∨ (up = false ∧ low < 2) ∨ (up = false ∧ low = 2 ∧ b = false ∧ q % 2 = 0)) := by
    refine ⟨_, hup, ?_⟩
    by_cases c : (2 < low ∨ (low = 2 ∧ (b = true ∨ q % 2 = 1)))
    · rw [decide_eq_true c]
      cases b <;> simp at c ⊢ <;> omega
    · rw [decide_eq_false c]
      cases b <;> simp at c ⊢ <;> omega
  have C5 : Hid ((up = true ∧ low = 3) ∨ (up = true ∧ low = 2 ∧ b = true) ∨ (up = true ∧ low = 2 ∧ b = false ∧ q % 2 = 1) ∨ (up = false ∧ low < 2) ∨ (up = false ∧ low = 2 ∧ b = false ∧ q % 2 = 0)) := hC5
  have HQU : Hid (Q = q + up.toNat) := hQu
  clear hC5 hQu
  clear hup
  have HE := round_end neg (exp + dr) Q hdr2 hQ2 hQ3
  rw [← HT.out] at HE
  have F1 : Hid (Q = 9007199254740992 → 971 < exp + dr + 1 → sgn neg + 9218868437227405312 = sgn neg + (T : Int)) := HE.1
  have F2 : Hid (Q = 9007199254740992 → exp + dr + 1 ≤ 971 → bits .or .u64 (bits .or .u64 (sgn neg) ((exp + dr + 1 + 1075) * 4503599627370496)) 0 = sgn neg + (T : Int)) := HE.2.1
  have F3 : Hid (Q ≠ 9007199254740992 → 971 < exp + dr → sgn neg + 9218868437227405312 = sgn neg + (T : Int)) := HE.2.2.1
  have F4 : Hid (Q ≠ 9007199254740992 → exp + dr ≤ 971 → Q < 4503599627370496 → bits .or .u64 (sgn neg) (Q : Int) = sgn neg + (T : Int)) := HE.2.2.2.1
  have F5 : Hid (Q ≠ 9007199254740992 → exp + dr ≤ 971 → 4503599627370496 ≤ Q → bits .or .u64 (bits .or .u64 (sgn neg) ((exp + dr + 1075) * 4503599627370496)) ((Q : Int) - 4503599627370496) = sgn neg + (T : Int)) := HE.2.2.2.2
  clear hQ3 HE HT
  go_enter Tryz.func70, Tryz.ntmps70
  go_upto_if 45 with (go_at_call 81; refine (HL.out _ hD).mono ?_; rintro e w1 ⟨rfl, hw1⟩; rw [hw1]; clear hw1 w1)
  go_cut [10] (fun d wc => d = .int .i64 dr ∧ wc = w)
  case first =>
    by_cases c : (n : Int) - 53 < -1074 - exp
    · have HR2 : Hid (-1074 - exp = dr) := by show _ = _; have := HR.out; omega
      go_wp2_with fail
      go_meet
      case rel => exact ⟨by rw [HR2.out], rfl⟩
    · have HR2 : Hid ((n : Int) - 53 = dr) := by show _ = _; have := HR.out; omega
      go_wp2_with fail
      go_meet
      case rel => exact ⟨by rw [HR2.out], rfl⟩
  case rest =>
    obtain ⟨rfl, hwc⟩ := hcut
    rw [hwc]
    clear hwc
    have hDa := hD.below ((Below.refl w.heap.size w).alloc (Nat.le_refl _) (.cells #[] 34))
    have hba : Below w.heap.size w (w.alloc (.cells #[] 34)) := (Below.refl w.heap.size w).alloc (Nat.le_refl _) _
    go_upto_if 54 with fail
    go_cut [12, 13] (fun x lo wc => lo = .bool b ∧ (∃ lx, D wc x X lx) ∧ Below w.heap.size w wc)
    case first =>
      by_cases c : 2 ≤ dr
      · have HB2 : Hid ((more || fe) = b) := by show _ = _; rw [HB.out, if_pos c]
        cases more
        all_goals
          go_wp2_with fail
          refine (HD.out c _ hDa).mono ?_
          rintro e w2 ⟨v2, rfl, hd2, hb2⟩
          go_wp2_with fail
          go_meet
          case rel => exact ⟨by rw [← HB2.out]; simp, ⟨_, hd2⟩, hba.trans (hb2.mono hba.size)⟩
      · have HB2 : Hid (more = b) := by show _ = _; rw [HB.out, if_neg c]
        go_wp2_with fail
        refine (HU.out (by omega) _ hDa).mono ?_
        rintro e w2 ⟨v2, rfl, hd2, hb2⟩
        go_wp2_with fail
        go_meet
        case rel => exact ⟨by rw [← HB2.out], ⟨_, hd2⟩, hba.trans (hb2.mono hba.size)⟩
    case rest =>
      obtain ⟨rfl, ⟨lx, hdx⟩, hbx⟩ := hcut
      clear hDa hba
      go_upto_region 16 with (go_at_call 86; refine (HP.out _ _ _ hdx).mono ?_; rintro e w1 ⟨rfl, hw1⟩; rw [hw1]; clear hw1 w1)
      go_cut [90] (fun t wd => t = .bool up ∧ Below w.heap.size w wd)
      case first =>
        rcases C5.out with ⟨rfl, rfl⟩ | ⟨rfl, rfl, rfl⟩ | ⟨rfl, rfl, rfl, ho⟩ | ⟨rfl, ho⟩ | ⟨rfl, rfl, rfl, ho⟩
        · go_wp2_with fail
          go_meet
          case rel => exact ⟨rfl, hbx⟩
        · go_wp2_with fail
          go_meet
          case rel => exact ⟨rfl, hbx⟩
        · have hoz : ((q : Int) % 2 == 1) = true := by rw [beq_iff_eq]; omega
          go_wp2_with fail
          go_meet
          case rel => exact ⟨rfl, hbx⟩
        · have hl1 : ((low : Int) == 2) = false := by rw [beq_eq_false_iff_ne]; omega
          have hl2 : decide (2 < (low : Int)) = false := by simp; omega
          go_wp2_with fail
          go_meet
          case rel => exact ⟨rfl, hbx⟩
        · have hoz : ((q : Int) % 2 == 1) = false := by rw [beq_eq_false_iff_ne]; omega
          go_wp2_with fail
          go_meet
          case rel => exact ⟨rfl, hbx⟩
      case rest =>
        obtain ⟨rfl, hbx2⟩ := hcut
        clear hbx C5 t1 t2
        go_upto_if 90 with fail
        go_cut [16] (fun qq wd => qq = .int .u64 Q ∧ Below w.heap.size w wd)
        case first =>
          cases up
          · have HQ1 : Hid (q = Q) := by show _ = _; have := HQU.out; simp at this; omega
            go_wp2_with fail
            go_meet
            case rel => exact ⟨by rw [HQ1.out], hbx2⟩
          · have HQ1 : Hid (q + 1 = Q) := by show _ = _; have := HQU.out; simp at this; omega
            go_wp2_with fail
            go_meet
            case rel => exact ⟨by rw [← HQ1.out]; go_num, hbx2⟩
        case rest =>
          obtain ⟨rfl, hbx3⟩ := hcut
          clear hbx2
          clear hq53 HQU HD HU HP HL HB HR hdx hD
          by_cases a : Q = 9007199254740992
          · have az : ((Q : Int) == 9007199254740992) = true := by rw [beq_iff_eq]; omega
            have AZ : Hid (Q = 9007199254740992) := a
            clear a
            by_cases c : 971 < exp + dr + 1
            · go_wp2_with (go_at_call 83; refine (HI.out _).mono ?_; rintro e w1 ⟨rfl, hw1⟩; rw [hw1]; clear hw1 w1)
              go_ret
              exact ⟨ret_u64 (F1.out AZ.out c), hbx3⟩
            · go_wp2_with (go_at_call 82; refine (HS.out _).mono ?_; rintro e w1 ⟨rfl, hw1⟩; rw [hw1]; clear hw1 w1)
              go_ret
              exact ⟨ret_u64 (F2.out AZ.out (by omega)), hbx3⟩
          · have az : ((Q : Int) == 9007199254740992) = false := by rw [beq_eq_false_iff_ne]; omega
            have AZ : Hid (Q ≠ 9007199254740992) := a
            clear a
            by_cases c : 971 < exp + dr
            · go_wp2_with (go_at_call 83; refine (HI.out _).mono ?_; rintro e w1 ⟨rfl, hw1⟩; rw [hw1]; clear hw1 w1)
              go_ret
              exact ⟨ret_u64 (F3.out AZ.out c), hbx3⟩
            · by_cases d : Q < 4503599627370496
              · have dz : decide ((Q : Int) < 4503599627370496) = true := by simp; omega
                go_wp2_with (go_at_call 82; refine (HS.out _).mono ?_; rintro e w1 ⟨rfl, hw1⟩; rw [hw1]; clear hw1 w1)
                go_ret
                exact ⟨ret_u64 (F4.out AZ.out (by omega) d), hbx3⟩
              · have dz : decide ((Q : Int) < 4503599627370496) = false := by simp; omega
                go_wp2_with fail
                refine (HS.out _).mono ?_
                rintro e w1 ⟨rfl, hw1⟩
                rw [hw1]
                clear hw1 w1
                go_wp2_with fail
                go_ret
                exact ⟨ret_u64 (F5.out AZ.out (by omega) (by omega)), hbx3⟩

end Go.Proofs.YthmocdabakkfhaaGreatDoor
