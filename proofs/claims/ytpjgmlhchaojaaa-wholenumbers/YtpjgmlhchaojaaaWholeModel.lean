/-
  Layer 4: the model's own ways to whole numbers: math.Floor and its kin, float64(n), int64(f).
-/
import Derived.Test.YtpjgmlhchaojaaaWholeLaws
namespace Go.Proofs.Ytpjgmlhchaojaaa
open Go.RowKit Dg Flo

theorem far_scale {u c V : Nat} (how : Nat) (neg : Bool) (hc : 0 < c) : farB (u * c) how neg (V * c) = farB u how neg V := by
  have e1 : V * c % (u * c) = V % u * c := Nat.mul_mod_mul_right _ _ _
  have e2 : V * c / (u * c) = V / u := Nat.mul_div_mul_right _ _ hc
  have e3 : decide (V % u * c ≠ 0) = decide (V % u ≠ 0) := by
    by_cases z : V % u = 0
    · rw [z]; simp
    · rw [decide_eq_true z, decide_eq_true (Nat.ne_of_gt (Nat.mul_pos (by omega) hc))]
  unfold farB
  rw [e1, e2, e3, ← Nat.mul_assoc, cmp_scale hc]
theorem wcut_scale {u c V : Nat} (how : Nat) (neg : Bool) (hc : 0 < c) : wcut (u * c) how neg (V * c) = wcut u how neg V := by
  unfold wcut
  rw [far_scale how neg hc, Nat.mul_div_mul_right _ _ hc]

/-- Which of the model's ways is which of ours. -/
def Way (how : Nat) (way : Ieee.Toward) : Prop := (how = 0 ∧ way = .zero) ∨ (how = 1 ∧ way = .down) ∨ (how = 2 ∧ way = .up) ∨ (how = 3 ∧ way = .even)

theorem gap_same (n d : Nat) : n / 2 ^ min d (n.log2 + 2) = n / 2 ^ d ∧ n % 2 ^ min d (n.log2 + 2) = n % 2 ^ d := by
  rcases Nat.lt_or_ge (n.log2 + 2) d with h | h
  · rw [Nat.min_eq_right (by omega)]
    have hn : n < 2 ^ (n.log2 + 1) := Nat.lt_log2_self
    have e : 2 ^ (n.log2 + 2) = 2 * 2 ^ (n.log2 + 1) := Nat.pow_succ'
    have e2 : 2 ^ (n.log2 + 2) < 2 ^ d := Nat.pow_lt_pow_right (by decide) h
    rw [Nat.div_eq_of_lt (by omega), Nat.div_eq_of_lt (by omega), Nat.mod_eq_of_lt (by omega), Nat.mod_eq_of_lt (by omega)]
    exact ⟨rfl, rfl⟩
  · rw [Nat.min_eq_left h]; exact ⟨rfl, rfl⟩
theorem ne_bool (r : Nat) : (r != 0) = decide (r ≠ 0) := by
  by_cases c : r = 0
  · rw [c]; rfl
  · rw [decide_eq_true c, bne_iff_ne.2 c]
theorem cut_any {how : Nat} {way : Ieee.Toward} (hw : Way how way) (neg : Bool) (n d : Nat) : way.cut neg n d = wcut (2 ^ d) how neg n := by
  obtain ⟨g1, g2⟩ := gap_same n d
  rcases hw with ⟨rfl, rfl⟩ | ⟨rfl, rfl⟩ | ⟨rfl, rfl⟩ | ⟨rfl, rfl⟩
  · unfold Ieee.Toward.cut wcut
    simp only [Nat.one_shiftLeft]
    rw [g1]; rfl
  · unfold Ieee.Toward.cut wcut
    simp only [Nat.one_shiftLeft]
    rw [g1, g2, ne_bool]
    show _ + (neg && decide (n % 2 ^ d ≠ 0)).toNat = _ + (decide (n % 2 ^ d ≠ 0) && neg).toNat
    rw [Bool.and_comm]
  · unfold Ieee.Toward.cut wcut
    simp only [Nat.one_shiftLeft]
    rw [g1, g2, ne_bool]
    show _ + (!neg && decide (n % 2 ^ d ≠ 0)).toNat = _ + (decide (n % 2 ^ d ≠ 0) && !neg).toNat
    rw [Bool.and_comm]
  · rw [even_cut]
    unfold rne wcut
    rw [far_three (Nat.two_pow_pos d)]
    congr 1
    split
    · next h => rw [decide_eq_true h]; rfl
    · next h => rw [decide_eq_false h]; rfl

theorem cut_units {how : Nat} {way : Ieee.Toward} (hw : Way how way) (neg : Bool) (m : Nat) (p : Int) (hp : 0 ≤ p + 1074) : way.cut neg (m <<< p.toNat) (-p).toNat = wcut UN how neg (m * 2 ^ (p + 1074).toNat) := by
  rw [cut_any hw, Nat.shiftLeft_eq]
  by_cases c : 0 ≤ p
  · obtain ⟨i, rfl⟩ := Int.eq_ofNat_of_zero_le c
    have e1 : ((i : Int) + 1074).toNat = i + OP := by rw [OP_eq]; omega
    rw [e1, show (-(i : Int)).toNat = 0 by omega, Int.toNat_natCast, Nat.pow_add, ← Nat.mul_assoc, ← UN_eq, ← wcut_scale (u := 2 ^ 0) (V := m * 2 ^ i) how neg UN_pos, Nat.pow_zero, Nat.one_mul]
  · obtain ⟨j, hj⟩ := Int.eq_ofNat_of_zero_le (show 0 ≤ -p by omega)
    have hjO : j ≤ OP := by rw [OP_eq]; omega
    have e1 : (p + 1074).toNat = OP - j := by rw [OP_eq]; omega
    have hU : UN = 2 ^ j * 2 ^ (OP - j) := by rw [UN_eq, ← Nat.pow_add, show j + (OP - j) = OP by omega]
    rw [e1, hj, Int.toNat_natCast, show p.toNat = 0 by omega, Nat.pow_zero, Nat.mul_one, hU, wcut_scale how neg (Nat.two_pow_pos _)]

theorem write_units (s : Bool) (W : Nat) : ((Ieee.double.nearest s W 0 : Nat) : Int) = sgn s + (rung 0 (W * UN) : Nat) := by
  have h := nearest_rung s W 0 0 (by decide)
  have e : ((0 : Int) + 1074 + ((0 : Nat) : Int)).toNat = OP := rfl
  rw [e, ← UN_eq] at h
  exact h

theorem integral_fin {how : Nat} {way : Ieee.Toward} (hw : Way how way) {a : Int} (ha : U64 a) (h : mag a < 9218868437227405312) : ((Ieee.double.write ((Ieee.double.read a.toNat).integral way) : Nat) : Int) = wholeZ how a := by
  obtain ⟨m, p, h1, h2, h3⟩ := read_fin ha h
  rw [h3, wholeZ_fin h, ← h2, ← cut_units hw (belowB a) m p h1]
  exact write_units _ _

/-- float64(n). -/
theorem float_of_int (n : Int) : ((floatOfInt .f64 n : Nat) : Int) = fromZ n := write_units (decide (n < 0)) n.natAbs

/-- int64(f) of a whole number that an int64 holds. -/
theorem int_of_float {a : Int} (ha : U64 a) (h : toB a = true) : floatToIntVal .f64 a.toNat .i64 = some (toI a) := by
  obtain ⟨h1, h2, h3, h4⟩ := toB_true h
  obtain ⟨f1, f2⟩ := is_fin h1
  obtain ⟨m, p, p1, p2, p3⟩ := read_fin ha f1
  have e : (FloatKind.f64.decode a.toNat).toInt .zero = some (tz a) := by
    show (Ieee.double.read a.toNat).toInt .zero = _
    rw [p3]
    show some (Ieee.signed (belowB a) (Ieee.Toward.zero.cut (belowB a) (m <<< p.toNat) (-p).toNat) 0) = _
    rw [cut_units (how := 0) (Or.inl ⟨rfl, rfl⟩) (belowB a) m p p1, p2, wcut_exact _ f2]
    have es : ∀ (s : Bool) (W : Nat), Ieee.signed s W 0 = sz s W := by
      intro s W
      unfold Ieee.signed
      cases s
      · rw [sz_f]; simp
      · rw [sz_t]; simp
    rw [es]
    rfl
  unfold floatToIntVal
  rw [e, h2]
  show (if IntKind.i64.min ≤ tz a ∧ tz a ≤ IntKind.i64.max then some (tz a) else none) = _
  rw [if_pos]
  exact ⟨h3, h4⟩

theorem nan_words {a : Int} (ha : U64 a) (h : 9218868437227405312 < mag a) : canonZ ((a.toNat : Nat) : Int) = 9221120237041090560 := by
  rw [show ((a.toNat : Nat) : Int) = a by have := ha.1; omega]
  unfold canonZ; rw [nan_nan h]; rfl
theorem quiet_word (s : Bool) (t : Nat) (ht : t < 4503599627370496) : Ieee.double.write (.nan s (Ieee.double.quiet t)) < 18446744073709551616 ∧ canonZ ((Ieee.double.write (.nan s (Ieee.double.quiet t)) : Nat) : Int) = 9221120237041090560 := by
  have q1 : Ieee.double.quiet t = t ||| 2 ^ 51 := rfl
  have q2 : t ||| 2 ^ 51 < 2 ^ 52 := Nat.or_lt_two_pow (by omega) (by decide)
  have q3 : 2 ^ 51 ≤ t ||| 2 ^ 51 := Nat.right_le_or
  rw [q1]
  generalize t ||| 2 ^ 51 = q at *
  have e : Ieee.double.write (.nan s q) = (if s then 9223372036854775808 else 0) + (9218868437227405312 + q) := by
    show Ieee.double.word s (Ieee.double.infRung + q % Ieee.double.binade) = _
    have e2 : Ieee.double.binade = 4503599627370496 := by decide
    have e3 : Ieee.double.infRung = 9218868437227405312 := by decide
    rw [e2, e3, Nat.mod_eq_of_lt (by omega)]
    unfold Ieee.Format.word
    cases s
    · simp
    · rfl
  rw [e]
  have hn : nanB (((if s then 9223372036854775808 else 0) + (9218868437227405312 + q) : Nat) : Int) = true := by
    unfold nanB mag
    rw [decide_eq_true_eq]
    cases s <;> simp <;> split <;> omega
  refine ⟨by cases s <;> simp <;> omega, ?_⟩
  unfold canonZ
  rw [hn]; rfl
theorem read_nanF {a : Int} (h : U64 a) (hm : 9218868437227405312 < mag a) : ∃ f, f < 4503599627370496 ∧ Ieee.double.read a.toNat = .nan (belowB a) f := by
  obtain ⟨w1, w2⟩ := words h
  have hr := mag_range h
  obtain ⟨f, hf⟩ := read_nanZ h hm
  refine ⟨f, ?_, hf⟩
  have e : Ieee.double.read a.toNat = .nan (a.toNat / 9223372036854775808 % 2 == 1) (a.toNat % 9223372036854775808 - 9218868437227405312) := by
    have e1 : Ieee.double.signWeight = 9223372036854775808 := by decide
    have e2 : Ieee.double.binade = 4503599627370496 := by decide
    have e3 : Ieee.double.infRung = 9218868437227405312 := by decide
    unfold Ieee.Format.read
    rw [e1, e2, e3]
    simp only []
    rw [if_neg (by omega), if_neg (by omega), if_neg (by omega)]
  rw [e] at hf
  injection hf with _ h2
  omega

theorem integral_ext (name : String) (way : Ieee.Toward) (x : Nat) : Extern.MathFloor.toIntegral name way #[.float .f64 x] = (match FloatKind.f64.decode x with
    | .nan s t => if FloatKind.f64.format.quiet t = t then pure (.float .f64 x) else do
        let kept ← choose (.extern "math.Floor,Ceil,Trunc,RoundToEven.signallingNaN kept" 2)
        pure (.float .f64 (if kept == 1 then x else FloatKind.f64.encode (.nan s (FloatKind.f64.format.quiet t))))
    | d => pure (.float .f64 (FloatKind.f64.encode (d.integral way)))) := rfl
/-- math.Floor and its kin: some float whose one form is the whole number. -/
theorem integral_run {how : Nat} {way : Ieee.Toward} (name : String) (hw : Way how way) (a : Int) (ha : U64 a) (w : World) :
    ∃ (n : Nat) (w' : World), n < 18446744073709551616 ∧ canonZ n = wholeZ how a ∧ Below w.heap.size w w' ∧ (Extern.MathFloor.toIntegral name way #[.float .f64 a.toNat]).run Try.prog w = .ok (.float .f64 n) w' := by
  have hu := wholeZ_u64 (how := how) ha
  have hcan : canonZ (wholeZ how a) = wholeZ how a := by
    rcases kindsZ a with k | k | k
    · unfold canonZ; rw [fin_of ha k]; rfl
    · rw [wholeZ_inf (inf_inf k)]; unfold canonZ; rw [inf_nan k]; rfl
    · rw [wholeZ_nan (nan_nan k)]; decide
  rcases kindsZ a with k | k | k
  · have hi := integral_fin hw ha k
    obtain ⟨m, p, h1, h2, h3⟩ := read_fin ha k
    refine ⟨(wholeZ how a).toNat, w, u64_toNat hu, ?_, Below.refl _ _, ?_⟩
    · rw [show (((wholeZ how a).toNat : Nat) : Int) = wholeZ how a by have := hu.1; omega]
      exact hcan
    · rw [integral_ext]
      have hd : FloatKind.f64.decode a.toNat = .number (belowB a) m p := h3
      rw [hd]
      rw [h3] at hi
      have he : FloatKind.f64.encode (Ieee.Datum.integral way (.number (belowB a) m p)) = (wholeZ how a).toNat := by
        rw [← hi, Int.toNat_natCast]; rfl
      show (pure (Value.float .f64 (FloatKind.f64.encode (Ieee.Datum.integral way (.number (belowB a) m p)))) : Sem Value).run Try.prog w = _
      rw [he]; rfl
  · have hd : FloatKind.f64.decode a.toNat = .infinity (belowB a) := read_infZ ha k
    refine ⟨a.toNat, w, u64_toNat ha, ?_, Below.refl _ _, ?_⟩
    · rw [show ((a.toNat : Nat) : Int) = a by have := ha.1; omega, wholeZ_inf (inf_inf k)]
      unfold canonZ; rw [inf_nan k]; rfl
    · rw [integral_ext, hd]
      have he : FloatKind.f64.encode (Ieee.Datum.integral way (.infinity (belowB a))) = a.toNat := by
        have h1 := write_inf (belowB a)
        have h2 := inf_word ha k
        have h3 : FloatKind.f64.encode (Ieee.Datum.integral way (.infinity (belowB a))) = Ieee.double.write (.infinity (belowB a)) := rfl
        rw [h3]; omega
      show (pure (Value.float .f64 (FloatKind.f64.encode (Ieee.Datum.integral way (.infinity (belowB a))))) : Sem Value).run Try.prog w = _
      rw [he]; rfl
  · obtain ⟨t, ht, hd⟩ := read_nanF ha k
    have hd' : FloatKind.f64.decode a.toNat = .nan (belowB a) t := hd
    rw [wholeZ_nan (nan_nan k)]
    by_cases c : FloatKind.f64.format.quiet t = t
    · refine ⟨a.toNat, w, u64_toNat ha, nan_words ha k, Below.refl _ _, ?_⟩
      rw [integral_ext, hd']
      simp only [if_pos c]
      rfl
    · obtain ⟨q1, q2⟩ := quiet_word (belowB a) t ht
      have hq : (Question.extern "math.Floor,Ceil,Trunc,RoundToEven.signallingNaN kept" 2).forced = false := rfl
      obtain ⟨kept, hk⟩ : ∃ kept, kept = (Question.extern "math.Floor,Ceil,Trunc,RoundToEven.signallingNaN kept" 2).cut (w.tape w.drawn (.extern "math.Floor,Ceil,Trunc,RoundToEven.signallingNaN kept" 2)) := ⟨_, rfl⟩
      refine ⟨if kept == 1 then a.toNat else Ieee.double.write (.nan (belowB a) (Ieee.double.quiet t)), w.drew, ?_, ?_, (Below.refl _ _).drew, ?_⟩
      · split
        · exact u64_toNat ha
        · exact q1
      · split
        · exact nan_words ha k
        · exact q2
      · rw [integral_ext, hd']
        simp only [if_neg c]
        rw [hk]
        simp [hq]
        rfl

end Go.Proofs.Ytpjgmlhchaojaaa
