/-
  NgMath, DecNoughts, DcBytes, DecNoughtsOwn
-/
import Derived.Laws.BytesArg
import Derived.Test.YtngpdpmhjhgafaaDoorZ16

/-
  Noughts behind digits: the mathematics of DecNoughts.
-/
namespace Go.Proofs.YtngpdpmhjhgafaaDoor
set_option maxRecDepth 100000
open Go.RowKit Txt Flo

theorem dig_app {S X : List UInt8} (hS : AllD S) (hX : X = [] ∨ ∃ c r, X = c :: r ∧ isD c = false) : Txt.dig (S ++ X) = S ∧ rst (S ++ X) = X := by
  induction S with
  | nil =>
    rcases hX with rfl | ⟨c, r, rfl, hc⟩
    · exact ⟨rfl, rfl⟩
    · refine ⟨?_, ?_⟩
      · show (c :: r).takeWhile isD = []
        rw [List.takeWhile_cons, hc]; rfl
      · show (c :: r).dropWhile isD = c :: r
        rw [List.dropWhile_cons, hc]; rfl
  | cons a S ih =>
    have ha := hS a (by simp)
    have := ih (fun c hc => hS c (by simp [hc]))
    refine ⟨?_, ?_⟩
    · show (a :: (S ++ X)).takeWhile isD = a :: S
      rw [List.takeWhile_cons, ha, if_pos rfl]
      exact congrArg _ this.1
    · show (a :: (S ++ X)).dropWhile isD = X
      rw [List.dropWhile_cons, ha, if_pos rfl]
      exact this.2
theorem numL_dot {S U R : List UInt8} {e : Int} (hS : AllD S) (hS0 : S ≠ []) (hU : AllD U) (hU0 : U ≠ []) (hR : R = [] ∨ ∃ c r, R = c :: r ∧ isD c = false) (he : Txt.expo R = some e) : numL (S ++ 46 :: (U ++ R)) = some (S ++ U, e - U.length) := by
  have h1 := dig_app (X := 46 :: (U ++ R)) hS (Or.inr ⟨46, _, rfl, rfl⟩)
  have h2 := dig_app hU hR
  unfold numL
  rw [h1.1, h1.2, if_neg hS0]
  show (if (46 : UInt8).toNat = 46 then _ else _) = _
  rw [if_pos (show (46 : UInt8).toNat = 46 from rfl), h2.1, h2.2, if_neg hU0, he]
  rfl
theorem expo_nil : Txt.expo [] = some 0 := rfl
theorem expo_e0 : Txt.expo [101, 48] = some 0 := by decide
theorem dv_zeros (L : List UInt8) (k : Nat) : dv (L ++ List.replicate k 48) 0 = dv L 0 * 10 ^ k := by
  induction k with
  | zero => simp
  | succ k ih =>
    rw [List.replicate_succ', ← List.append_assoc, dv_snoc, ih, Nat.pow_succ, Nat.mul_assoc]
    rfl
theorem allD_zeros (k : Nat) : AllD (List.replicate k 48) := by
  intro c hc
  rw [List.eq_of_mem_replicate hc]
  rfl
theorem allD_app {A B : List UInt8} (hA : AllD A) (hB : AllD B) : AllD (A ++ B) := by
  intro c hc
  rcases List.mem_append.1 hc with h | h
  · exact hA c h
  · exact hB c h
theorem nearR_scale {A B c : Nat} (hB : 0 < B) (hc : 0 < c) : nearR (A * c) (B * c) = nearR A B := by
  by_cases hA : A = 0
  · subst hA; rw [Nat.zero_mul]; unfold nearR; rw [if_pos rfl, if_pos rfl]
  · have hAc : A * c ≠ 0 := Nat.mul_ne_zero hA (by omega)
    have hBc : 0 < B * c := Nat.mul_pos hB hc
    have h1 := enough hAc hBc
    generalize KN (B * c) = K at h1
    have e1 : A * c * 2 ^ K = A * 2 ^ K * c := by rw [Nat.mul_right_comm]
    have e2 : A * c * 2 ^ K / (B * c) = A * 2 ^ K / B := by rw [e1, Nat.mul_div_mul_right _ _ hc]
    have e3 : A * c * 2 ^ K % (B * c) = A * 2 ^ K % B * c := by rw [e1, Nat.mul_mod_mul_right]
    have e4 : stick (A * c) (B * c) K = stick A B K := by
      unfold stick
      rw [e2, e3]
      by_cases z : A * 2 ^ K % B = 0
      · rw [z, Nat.zero_mul, if_pos rfl]
      · rw [if_neg z, if_neg (Nat.mul_ne_zero z (by omega))]
    rw [← near_bits hAc hBc h1, ← near_bits (k := K) hA hB (by rw [← e2]; exact h1), e4]
theorem decN_noughts (M m k : Nat) (hm : 0 < m) : decN (M * 10 ^ k) (-((m + k : Nat) : Int)) = decN M (-(m : Int)) := by
  unfold decN
  rw [if_neg (by omega), if_neg (by omega), show (- -((m + k : Nat) : Int)).toNat = m + k by omega, show (- -(m : Int)).toNat = m by omega, Nat.pow_add]
  exact nearR_scale (Nat.pow_pos (by decide)) (Nat.pow_pos (by decide))
/-- What is parsed. -/
theorem parse_noughts {S T R : List UInt8} (k : Nat) (hS : AllD S) (hS0 : S ≠ []) (hT : AllD T) (hT0 : T ≠ []) (hR : R = [] ∨ ∃ c r, R = c :: r ∧ isD c = false) (he : Txt.expo R = some 0) (hl : S.length + T.length + k + R.length + 1 ≤ 400) :
    parseW (S ++ 46 :: (T ++ List.replicate k 48 ++ R)) = (decN (dv (S ++ T) 0) (-(T.length : Int)), 0) := by
  have hU0 : T ++ List.replicate k 48 ≠ [] := fun e => hT0 (List.append_eq_nil_iff.1 e).1
  have h1 := numL_dot (S := S) (U := T ++ List.replicate k 48) (R := R) hS hS0 (allD_app hT (allD_zeros k)) hU0 hR he
  have h2 := parseW_some (by simp; omega) h1
  rw [h2, ← List.append_assoc, dv_zeros]
  have hTl : 0 < T.length := List.length_pos_iff.2 hT0
  have e : (0 : Int) - (((T ++ List.replicate k 48).length : Nat) : Int) = -((T.length + k : Nat) : Int) := by rw [List.length_append, List.length_replicate]; omega
  rw [e, decN_noughts _ _ _ hTl]

end Go.Proofs.YtngpdpmhjhgafaaDoor

/-
  DecNoughts: the walk.
-/
namespace Go.Proofs.YtngpdpmhjhgafaaDoor
set_option maxRecDepth 100000
open Go.RowKit Txt

/-- The slice v reads as the bytes l. -/
def RB (w : World) (v : Value) (l : List Nat) : Prop :=
  (∀ d ∈ l, d < 256) ∧ l.length ≤ maxLen ∧ ∃ a cap, v = .slice a l.length cap ∧ ∀ i, i < l.length → ∃ x, a = some x ∧ w.cell? (x.add i) = some (.int .u8 (l.getD i 0 : Nat))
theorem RB.below {w w' : World} {B : Nat} {v : Value} {l : List Nat} (h : RB w v l) (hg : Below B w w') (hB : w.heap.size ≤ B) : RB w' v l := by
  obtain ⟨h1, h2, a, cap, h3, h4⟩ := h
  refine ⟨h1, h2, a, cap, h3, fun i hi => ?_⟩
  obtain ⟨x, e, hc⟩ := h4 i hi
  refine ⟨x, e, ?_⟩
  have := World.block_lt_of_cell? w _ hc
  rw [← hc]
  exact World.cell?_of_block (hg.block _ (by omega))
theorem RB.at {w : World} {a : Option Addr} {n cap : Nat} {l : List Nat} (h : RB w (.slice a n cap) l) {i : Nat} (hi : i < l.length) : ∃ x, a = some x ∧ w.cell? (x.add i) = some (.int .u8 (l.getD i 0 : Nat)) ∧ l.getD i 0 < 256 := by
  obtain ⟨h1, _, a', cap', h3, h4⟩ := h
  simp only [Value.slice.injEq] at h3
  obtain ⟨rfl, rfl, rfl⟩ := h3
  obtain ⟨x, e, hc⟩ := h4 i hi
  refine ⟨x, e, hc, ?_⟩
  rw [List.getD_eq_getElem?_getD, List.getElem?_eq_getElem hi]
  exact h1 _ (List.getElem_mem hi)
/-- One byte as a text. -/
theorem conv_one (w : World) (d : Nat) : (convert 36 9 (.slice (some ⟨w.heap.size, 0, none⟩) 1 1)).run Tryd.prog (w.alloc (.cells #[.int .u8 (d : Int)] 5)) = .ok (.string (bs [UInt8.ofNat d])) (w.alloc (.cells #[.int .u8 (d : Int)] 5)) := by
  have := run_convert_bytes_arg (P := Tryd.prog) (w.alloc (.cells #[.int .u8 (d : Int)] 5)) 36 5 Tryd.underlying36 Tryd.underlying5 w.heap.size 0 1 1 [(d : Int)] rfl (fun i hi => by
    have : i = 0 := by omega
    subst this
    exact cells_at5 _ _ _ _ rfl) 9 Tryd.underlying9
  rw [this]
  rfl
theorem isD_ten (b : Nat) : isD (UInt8.ofNat (48 + b % 10)) = true := by
  unfold isD
  have : (UInt8.ofNat (48 + b % 10)).toNat = 48 + b % 10 := by rw [UInt8.toNat_ofNat']; omega
  rw [this]
  apply decide_eq_true
  omega
theorem allD_snoc {S : List UInt8} {c : UInt8} (h : AllD S) (hc : isD c = true) : AllD (S ++ [c]) := allD_app h (fun x hx => by rw [List.mem_singleton.1 hx]; exact hc)

set_option maxRecDepth 100000 in
set_option maxHeartbeats 3200000 in
theorem decNoughts_walk (vf vb : Value) (lf lb : List Nat) (k : Nat) (w : World) (hf : RB w vf lf) (hb : RB w vb lb) (hk : k < 256) :
    Calls Tryd.prog 5 #[vf, vb, .int .u8 k] w fun e w' => e = .returned (.bool true) ∧ Below w.heap.size w w' := by
  have HF : Hid (RB w vf lf) := hf
  have HB : Hid (RB w vb lb) := hb
  obtain ⟨_, nf, af, cf, rfl, _⟩ := hf
  obtain ⟨_, nb, ab, cb, rfl, _⟩ := hb
  unfold maxLen at nf nb
  obtain ⟨n, hn⟩ : ∃ n, n = lf.length := ⟨_, rfl⟩
  obtain ⟨m, hm⟩ : ∃ m, m = lb.length := ⟨_, rfl⟩
  have HN : Hid (n = lf.length) := hn
  have HM : Hid (m = lb.length) := hm
  rw [← hn] at HF nf ⊢
  rw [← hm] at HB nb ⊢
  have H1 : Hid ((⟨#[49]⟩ : ByteArray) = bs [49] ∧ AllD [49]) := ⟨rfl, fun c hc => by rw [List.mem_singleton.1 hc]; rfl⟩
  have H5 : Hid ((⟨#[53]⟩ : ByteArray) = bs [53] ∧ AllD [53]) := ⟨rfl, fun c hc => by rw [List.mem_singleton.1 hc]; rfl⟩
  clear hn hm
  go_enter Tryd.func5, Tryd.ntmps5
  go_wp2_with fail
  go_loopw [7, 9] (fun t7 t9 wr => ∃ (i : Nat) (s : ByteArray), i ≤ n ∧ i ≤ 40 ∧ t9 = .int .i64 i ∧ t7 = .string s ∧ s.size ≤ 41 ∧ Hid (∃ S, s = bs S ∧ AllD S ∧ S.length = i + 1) ∧ Hid (Below w.heap.size w wr)) (fun _ t9 _ => 40 - (intOf t9).toNat)
  case atStart => exact ⟨0, ⟨#[49]⟩, Nat.zero_le _, by omega, rfl, rfl, by decide, ⟨[49], H1.out.1, H1.out.2, rfl⟩, Below.refl _ _⟩
  case round =>
    obtain ⟨i, s, hin, hi4, rfl, rfl, hss, HS, HBr⟩ := hrel
    by_cases c : i < n ∧ i < 40
    · obtain ⟨c1, c2⟩ := c
      obtain ⟨x, rfl, hce, hd⟩ := (HF.out.below HBr.out (Nat.le_refl _)).at (i := i) (by have := HN.out; omega)
      generalize lf.getD i 0 = b at hce hd
      have c1i : (i : Int) < (n : Int) := by omega
      have c2i : (i : Int) < 40 := by omega
      have c3i : (0 : Int) ≤ (i : Int) := by omega
      obtain ⟨d, hdd⟩ : ∃ d, d = 48 + b % 10 := ⟨_, rfl⟩
      obtain ⟨r, hr⟩ : ∃ r, r = b % 10 := ⟨_, rfl⟩
      have e1 : (b : Int) % 10 = (r : Int) := by omega
      have e2 : 48 + (r : Int) = (d : Int) := by omega
      have hr9 : r < 10 := by omega
      have hd5 : d < 58 := by omega
      have hcv := conv_one wr d
      have HS2 : Hid (∃ S, s ++ bs [UInt8.ofNat d] = bs S ∧ AllD S ∧ S.length = i + 1 + 1) := by
        obtain ⟨S, h1, h2, h3⟩ := HS.out
        refine ⟨S ++ [UInt8.ofNat d], ?_, allD_snoc h2 (by rw [hdd]; exact isD_ten b), by simp [h3]⟩
        rw [h1, bs_append]
      have hsz2 : (s ++ bs [UInt8.ofNat d]).size ≤ 41 := by
        obtain ⟨S, h1, h2, h3⟩ := HS2.out
        rw [h1, bs_size, h3]; omega
      have hs1 : (bs [UInt8.ofNat d]).size = 1 := by rw [bs_size]; rfl
      generalize bs [UInt8.ofNat d] = cs at *
      have HBn : Hid (Below w.heap.size w (wr.alloc (.cells #[.int .u8 (d : Int)] 5))) := HBr.out.alloc HBr.out.size _
      clear hdd hr HS
      go_wp2
      go_roundw
      case rel => exact ⟨i + 1, s ++ cs, by omega, by omega, by go_num, rfl, hsz2, HS2, HBn⟩
      case measure => simp [intOf]; omega
    · have hex : ¬ i < n ∨ (i < n ∧ ¬ i < 40) := by omega
      rcases hex with c1 | ⟨c1, c2⟩
      · have ci : ¬ (i : Int) < (n : Int) := by omega
        obtain ⟨wa, rfl⟩ : ∃ wa, wa = wr := ⟨_, rfl⟩
        go_wp2_with fail
        go_loopw [8, 10] (fun t8 t10 wr => ∃ (i : Nat) (s : ByteArray), i ≤ m ∧ i ≤ 40 ∧ t10 = .int .i64 i ∧ t8 = .string s ∧ s.size ≤ 41 ∧ Hid (∃ S, s = bs S ∧ AllD S ∧ S.length = i + 1) ∧ Hid (Below w.heap.size w wr)) (fun _ t10 _ => 40 - (intOf t10).toNat)
        case atStart => exact ⟨0, ⟨#[53]⟩, Nat.zero_le _, by omega, rfl, rfl, by decide, ⟨[53], H5.out.1, H5.out.2, rfl⟩, HBr.out⟩
        case round =>
          obtain ⟨i2, t, hin2, hi42, rfl, rfl, htt, HT, HBr⟩ := hrel
          by_cases c3 : i2 < m ∧ i2 < 40
          · obtain ⟨c1, c2⟩ := c3
            obtain ⟨x, rfl, hce, hd⟩ := (HB.out.below HBr.out (Nat.le_refl _)).at (i := i2) (by have := HM.out; omega)
            generalize lb.getD i2 0 = b at hce hd
            have c1i : (i2 : Int) < (m : Int) := by omega
            have c2i : (i2 : Int) < 40 := by omega
            have c3i : (0 : Int) ≤ (i2 : Int) := by omega
            obtain ⟨d, hdd⟩ : ∃ d, d = 48 + b % 10 := ⟨_, rfl⟩
            obtain ⟨r, hr⟩ : ∃ r, r = b % 10 := ⟨_, rfl⟩
            have e1 : (b : Int) % 10 = (r : Int) := by omega
            have e2 : 48 + (r : Int) = (d : Int) := by omega
            have hr9 : r < 10 := by omega
            have hd5 : d < 58 := by omega
            have hcv := conv_one wr d
            have HT2 : Hid (∃ S, t ++ bs [UInt8.ofNat d] = bs S ∧ AllD S ∧ S.length = i2 + 1 + 1) := by
              obtain ⟨S, h1, h2, h3⟩ := HT.out
              refine ⟨S ++ [UInt8.ofNat d], ?_, allD_snoc h2 (by rw [hdd]; exact isD_ten b), by simp [h3]⟩
              rw [h1, bs_append]
            have hsz2 : (t ++ bs [UInt8.ofNat d]).size ≤ 41 := by
              obtain ⟨S, h1, h2, h3⟩ := HT2.out
              rw [h1, bs_size, h3]; omega
            have hs1 : (bs [UInt8.ofNat d]).size = 1 := by rw [bs_size]; rfl
            generalize bs [UInt8.ofNat d] = cs at *
            have HBn : Hid (Below w.heap.size w (wr.alloc (.cells #[.int .u8 (d : Int)] 5))) := HBr.out.alloc HBr.out.size _
            clear hdd hr HT
            go_wp2
            go_roundw
            case rel => exact ⟨i2 + 1, t ++ cs, by omega, by omega, by go_num, rfl, hsz2, HT2, HBn⟩
            case measure => simp [intOf]; omega
          · have hex2 : ¬ i2 < m ∨ (i2 < m ∧ ¬ i2 < 40) := by omega
            rcases hex2 with c4 | ⟨c4, c5⟩
            · have ci2 : ¬ (i2 : Int) < (m : Int) := by omega
              obtain ⟨S, hS1, hS2, hS3⟩ := HS.out
              obtain ⟨T, hT1, hT2, hT3⟩ := HT.out
              have HV : Hid (∀ (j : Nat) (R : List UInt8), (R = [] ∨ ∃ c r, R = c :: r ∧ isD c = false) → Txt.expo R = some 0 → R.length ≤ 2 → j ≤ 255 → parseW (S ++ 46 :: (T ++ List.replicate j 48 ++ R)) = (decN (dv (S ++ T) 0) (-(T.length : Int)), 0)) :=
                fun j R h1 h2 h3 h4 => parse_noughts j hS2 (fun e => by rw [e] at hS3; simp at hS3) hT2 (fun e => by rw [e] at hT3; simp at hT3) h1 h2 (by omega)
              have hNr := fun w => near_any (S ++ T) (-(T.length : Int)) w (allD_app hS2 hT2) (by rw [List.length_append]; omega) (by omega) (by omega)
              have HU0 : Hid (s ++ ⟨#[46]⟩ ++ t = bs (S ++ 46 :: (T ++ List.replicate 0 48 ++ []))) := by
                show _ = _
                rw [hS1, hT1, show (⟨#[46]⟩ : ByteArray) = bs [46] from rfl, bs_append, bs_append]; simp
              have HUj : Hid (∀ j, bs (S ++ 46 :: (T ++ List.replicate j 48 ++ [])) ++ ⟨#[48]⟩ = bs (S ++ 46 :: (T ++ List.replicate (j + 1) 48 ++ []))) := fun j => by
                rw [show (⟨#[48]⟩ : ByteArray) = bs [48] from rfl, bs_append, List.replicate_succ']; simp
              have HUe : Hid (∀ j, bs (S ++ 46 :: (T ++ List.replicate j 48 ++ [])) ++ ⟨#[101, 48]⟩ = bs (S ++ 46 :: (T ++ List.replicate j 48 ++ [101, 48]))) := fun j => by
                rw [show (⟨#[101, 48]⟩ : ByteArray) = bs [101, 48] from rfl, bs_append]; simp
              have HSz : Hid (∀ j, j ≤ 255 → (bs (S ++ 46 :: (T ++ List.replicate j 48 ++ []))).size ≤ 340) := fun j hj => by rw [bs_size]; simp; omega
              have hP : ∀ (j : Nat) (w : World), j ≤ 255 → Calls Tryd.prog 7 #[.string (bs (S ++ 46 :: (T ++ List.replicate j 48 ++ [])))] w fun e w' => e = .returned (.tuple #[.int .u64 (decN (dv (S ++ T) 0) (-(T.length : Int)) : Nat), .int .i64 (0 : Nat)]) ∧ Below w.heap.size w w' := fun j w hj => by
                have := parse_any (S ++ 46 :: (T ++ List.replicate j 48 ++ [])) w (by unfold maxLen; simp; omega)
                rw [HV.out j [] (Or.inl rfl) expo_nil (by decide) hj] at this
                exact this
              have hPe : ∀ (j : Nat) (w : World), j ≤ 255 → Calls Tryd.prog 7 #[.string (bs (S ++ 46 :: (T ++ List.replicate j 48 ++ [101, 48])))] w fun e w' => e = .returned (.tuple #[.int .u64 (decN (dv (S ++ T) 0) (-(T.length : Int)) : Nat), .int .i64 (0 : Nat)]) ∧ Below w.heap.size w w' := fun j w hj => by
                have := parse_any (S ++ 46 :: (T ++ List.replicate j 48 ++ [101, 48])) w (by unfold maxLen; simp; omega)
                rw [HV.out j [101, 48] (Or.inr ⟨101, [48], rfl, rfl⟩) expo_e0 (by decide) hj] at this
                exact this
              have hst : s ++ t = bs (S ++ T) := by rw [hS1, hT1, bs_append]
              have htl : t.size = T.length := by rw [hT1, bs_size]
              rw [← hst, ← htl] at hNr
              rw [← htl] at hP hPe
              have HP : Hid (∀ (j : Nat) (w : World), j ≤ 255 → Calls Tryd.prog 7 #[.string (bs (S ++ 46 :: (T ++ List.replicate j 48 ++ [])))] w fun e w' => e = .returned (.tuple #[.int .u64 (decN (dv (S ++ T) 0) (-(t.size : Int)) : Nat), .int .i64 (0 : Nat)]) ∧ Below w.heap.size w w') := hP
              have HPe : Hid (∀ (j : Nat) (w : World), j ≤ 255 → Calls Tryd.prog 7 #[.string (bs (S ++ 46 :: (T ++ List.replicate j 48 ++ [101, 48])))] w fun e w' => e = .returned (.tuple #[.int .u64 (decN (dv (S ++ T) 0) (-(t.size : Int)) : Nat), .int .i64 (0 : Nat)]) ∧ Below w.heap.size w w') := hPe
              have hU0 := HU0.out
              obtain ⟨F, hF⟩ : ∃ F : Nat → ByteArray, F = fun j => bs (S ++ 46 :: (T ++ List.replicate j 48 ++ [])) := ⟨_, rfl⟩
              obtain ⟨G, hG⟩ : ∃ G : Nat → ByteArray, G = fun j => bs (S ++ 46 :: (T ++ List.replicate j 48 ++ [101, 48])) := ⟨_, rfl⟩
              have HFj : Hid (∀ j, F j ++ ⟨#[48]⟩ = F (j + 1)) := by rw [hF]; exact HUj.out
              have HFe : Hid (∀ j, F j ++ ⟨#[101, 48]⟩ = G j) := by rw [hF, hG]; exact HUe.out
              have HFz : Hid (∀ j, j ≤ 255 → (F j).size ≤ 340) := by rw [hF]; exact HSz.out
              generalize decN (dv (S ++ T) 0) (-(t.size : Int)) = V at *
              have HPF : Hid (∀ (j : Nat) (w : World), j ≤ 255 → Calls Tryd.prog 7 #[.string (F j)] w fun e w' => e = .returned (.tuple #[.int .u64 (V : Nat), .int .i64 (0 : Nat)]) ∧ Below w.heap.size w w') := by rw [hF]; exact HP.out
              have HPG : Hid (∀ (j : Nat) (w : World), j ≤ 255 → Calls Tryd.prog 7 #[.string (G j)] w fun e w' => e = .returned (.tuple #[.int .u64 (V : Nat), .int .i64 (0 : Nat)]) ∧ Below w.heap.size w w') := by rw [hG]; exact HPe.out
              have hU1 : s ++ ⟨#[46]⟩ ++ t = F 0 := by rw [hF]; exact hU0
              have hz46 : (⟨#[46]⟩ : ByteArray).size = 1 := rfl
              have hz47 : (s ++ ⟨#[46]⟩).size ≤ 42 := by rw [hS1, show (⟨#[46]⟩ : ByteArray) = bs [46] from rfl, bs_append, bs_size, List.length_append]; simp; omega
              have HNr : Hid (∀ w, Calls Tryd.prog 13 #[.agg #[.string (s ++ t), .int .i64 (-(t.size : Int))]] w fun e w' => e = .returned (.int .u64 (V : Nat)) ∧ Below w.heap.size w w') := hNr
              generalize hsd : s ++ ⟨#[46]⟩ = sd at *
              generalize hss2 : s ++ t = sst at *
              clear HV hNr HU0 HUj HUe HSz hP hPe HP HPe hU0 hF hG hS1 hT1 hS2 hS3 hT2 hT3 hst htl
              have hB0 := HBr.out
              have z0 := hB0.size
              go_wp2_with fail
              refine (HPF.out 0 _ (by omega)).mono ?_
              rintro e w1 ⟨rfl, hb1⟩
              have hB1 := hB0.trans (hb1.mono z0)
              have z1 := hB1.size
              have HB1 : Hid (Below w.heap.size w w1) := hB1
              clear hb1 hB1 hB0
              go_wp2_with fail
              go_loop [13, 14] (fun t13 t14 => ∃ j : Nat, j ≤ k ∧ t14 = .int .i64 j ∧ t13 = .string (F j)) (fun _ t14 => k - (intOf t14).toNat)
              case atStart => exact ⟨0, Nat.zero_le _, rfl, rfl⟩
              case round =>
                obtain ⟨j, hj, rfl, rfl⟩ := hrel
                have hzj := HFz.out j (by omega)
                by_cases c5 : j < k
                · have c5i : (j : Int) < (k : Int) := by omega
                  have hFj := HFj.out j
                  have hz48 : (⟨#[48]⟩ : ByteArray).size = 1 := rfl
                  go_wp2
                  go_round
                  case rel => exact ⟨j + 1, by omega, by go_num, rfl⟩
                  case measure => simp [intOf]; omega
                · have e : j = k := by omega
                  subst e
                  have hFe := HFe.out j
                  have hz48 : (⟨#[101, 48]⟩ : ByteArray).size = 2 := rfl
                  go_wp2_with fail
                  refine (HPF.out j _ (by omega)).mono ?_
                  rintro e w2 ⟨rfl, hb2⟩
                  have hB2 := HB1.out.trans (hb2.mono z1)
                  have z2 := hB2.size
                  clear hb2
                  go_wp2_with fail
                  refine (HPG.out j _ (by omega)).mono ?_
                  rintro e w3 ⟨rfl, hb3⟩
                  have hB3 := hB2.trans (hb3.mono z2)
                  have z3 := hB3.size
                  clear hb3 hB2
                  go_wp2_with fail
                  refine (HNr.out _).mono ?_
                  rintro e w4 ⟨rfl, hb4⟩
                  have hB4 := hB3.trans (hb4.mono z3)
                  have z4 := hB4.size
                  clear hb4 hB3
                  go_wp2_with fail
                  refine (decLives_any w4).mono ?_
                  rintro e w5 ⟨rfl, hb5⟩
                  have HB5 : Hid (Below w.heap.size w w5) := hB4.trans (hb5.mono z4)
                  clear hb5 hB4
                  go_wp2
                  go_ret
                  exact ⟨rfl, HB5.out⟩
            · have ci2 : (i2 : Int) < (m : Int) := by omega
              have ci3 : ¬ (i2 : Int) < 40 := by omega
              obtain ⟨S, hS1, hS2, hS3⟩ := HS.out
              obtain ⟨T, hT1, hT2, hT3⟩ := HT.out
              have HV : Hid (∀ (j : Nat) (R : List UInt8), (R = [] ∨ ∃ c r, R = c :: r ∧ isD c = false) → Txt.expo R = some 0 → R.length ≤ 2 → j ≤ 255 → parseW (S ++ 46 :: (T ++ List.replicate j 48 ++ R)) = (decN (dv (S ++ T) 0) (-(T.length : Int)), 0)) :=
                fun j R h1 h2 h3 h4 => parse_noughts j hS2 (fun e => by rw [e] at hS3; simp at hS3) hT2 (fun e => by rw [e] at hT3; simp at hT3) h1 h2 (by omega)
              have hNr := fun w => near_any (S ++ T) (-(T.length : Int)) w (allD_app hS2 hT2) (by rw [List.length_append]; omega) (by omega) (by omega)
              have HU0 : Hid (s ++ ⟨#[46]⟩ ++ t = bs (S ++ 46 :: (T ++ List.replicate 0 48 ++ []))) := by
                show _ = _
                rw [hS1, hT1, show (⟨#[46]⟩ : ByteArray) = bs [46] from rfl, bs_append, bs_append]; simp
              have HUj : Hid (∀ j, bs (S ++ 46 :: (T ++ List.replicate j 48 ++ [])) ++ ⟨#[48]⟩ = bs (S ++ 46 :: (T ++ List.replicate (j + 1) 48 ++ []))) := fun j => by
                rw [show (⟨#[48]⟩ : ByteArray) = bs [48] from rfl, bs_append, List.replicate_succ']; simp
              have HUe : Hid (∀ j, bs (S ++ 46 :: (T ++ List.replicate j 48 ++ [])) ++ ⟨#[101, 48]⟩ = bs (S ++ 46 :: (T ++ List.replicate j 48 ++ [101, 48]))) := fun j => by
                rw [show (⟨#[101, 48]⟩ : ByteArray) = bs [101, 48] from rfl, bs_append]; simp
              have HSz : Hid (∀ j, j ≤ 255 → (bs (S ++ 46 :: (T ++ List.replicate j 48 ++ []))).size ≤ 340) := fun j hj => by rw [bs_size]; simp; omega
              have hP : ∀ (j : Nat) (w : World), j ≤ 255 → Calls Tryd.prog 7 #[.string (bs (S ++ 46 :: (T ++ List.replicate j 48 ++ [])))] w fun e w' => e = .returned (.tuple #[.int .u64 (decN (dv (S ++ T) 0) (-(T.length : Int)) : Nat), .int .i64 (0 : Nat)]) ∧ Below w.heap.size w w' := fun j w hj => by
                have := parse_any (S ++ 46 :: (T ++ List.replicate j 48 ++ [])) w (by unfold maxLen; simp; omega)
                rw [HV.out j [] (Or.inl rfl) expo_nil (by decide) hj] at this
                exact this
              have hPe : ∀ (j : Nat) (w : World), j ≤ 255 → Calls Tryd.prog 7 #[.string (bs (S ++ 46 :: (T ++ List.replicate j 48 ++ [101, 48])))] w fun e w' => e = .returned (.tuple #[.int .u64 (decN (dv (S ++ T) 0) (-(T.length : Int)) : Nat), .int .i64 (0 : Nat)]) ∧ Below w.heap.size w w' := fun j w hj => by
                have := parse_any (S ++ 46 :: (T ++ List.replicate j 48 ++ [101, 48])) w (by unfold maxLen; simp; omega)
                rw [HV.out j [101, 48] (Or.inr ⟨101, [48], rfl, rfl⟩) expo_e0 (by decide) hj] at this
                exact this
              have hst : s ++ t = bs (S ++ T) := by rw [hS1, hT1, bs_append]
              have htl : t.size = T.length := by rw [hT1, bs_size]
              rw [← hst, ← htl] at hNr
              rw [← htl] at hP hPe
              have HP : Hid (∀ (j : Nat) (w : World), j ≤ 255 → Calls Tryd.prog 7 #[.string (bs (S ++ 46 :: (T ++ List.replicate j 48 ++ [])))] w fun e w' => e = .returned (.tuple #[.int .u64 (decN (dv (S ++ T) 0) (-(t.size : Int)) : Nat), .int .i64 (0 : Nat)]) ∧ Below w.heap.size w w') := hP
              have HPe : Hid (∀ (j : Nat) (w : World), j ≤ 255 → Calls Tryd.prog 7 #[.string (bs (S ++ 46 :: (T ++ List.replicate j 48 ++ [101, 48])))] w fun e w' => e = .returned (.tuple #[.int .u64 (decN (dv (S ++ T) 0) (-(t.size : Int)) : Nat), .int .i64 (0 : Nat)]) ∧ Below w.heap.size w w') := hPe
              have hU0 := HU0.out
              obtain ⟨F, hF⟩ : ∃ F : Nat → ByteArray, F = fun j => bs (S ++ 46 :: (T ++ List.replicate j 48 ++ [])) := ⟨_, rfl⟩
              obtain ⟨G, hG⟩ : ∃ G : Nat → ByteArray, G = fun j => bs (S ++ 46 :: (T ++ List.replicate j 48 ++ [101, 48])) := ⟨_, rfl⟩
              have HFj : Hid (∀ j, F j ++ ⟨#[48]⟩ = F (j + 1)) := by rw [hF]; exact HUj.out
              have HFe : Hid (∀ j, F j ++ ⟨#[101, 48]⟩ = G j) := by rw [hF, hG]; exact HUe.out
              have HFz : Hid (∀ j, j ≤ 255 → (F j).size ≤ 340) := by rw [hF]; exact HSz.out
              generalize decN (dv (S ++ T) 0) (-(t.size : Int)) = V at *
              have HPF : Hid (∀ (j : Nat) (w : World), j ≤ 255 → Calls Tryd.prog 7 #[.string (F j)] w fun e w' => e = .returned (.tuple #[.int .u64 (V : Nat), .int .i64 (0 : Nat)]) ∧ Below w.heap.size w w') := by rw [hF]; exact HP.out
              have HPG : Hid (∀ (j : Nat) (w : World), j ≤ 255 → Calls Tryd.prog 7 #[.string (G j)] w fun e w' => e = .returned (.tuple #[.int .u64 (V : Nat), .int .i64 (0 : Nat)]) ∧ Below w.heap.size w w') := by rw [hG]; exact HPe.out
              have hU1 : s ++ ⟨#[46]⟩ ++ t = F 0 := by rw [hF]; exact hU0
              have hz46 : (⟨#[46]⟩ : ByteArray).size = 1 := rfl
              have hz47 : (s ++ ⟨#[46]⟩).size ≤ 42 := by rw [hS1, show (⟨#[46]⟩ : ByteArray) = bs [46] from rfl, bs_append, bs_size, List.length_append]; simp; omega
              have HNr : Hid (∀ w, Calls Tryd.prog 13 #[.agg #[.string (s ++ t), .int .i64 (-(t.size : Int))]] w fun e w' => e = .returned (.int .u64 (V : Nat)) ∧ Below w.heap.size w w') := hNr
              generalize hsd : s ++ ⟨#[46]⟩ = sd at *
              generalize hss2 : s ++ t = sst at *
              clear HV hNr HU0 HUj HUe HSz hP hPe HP HPe hU0 hF hG hS1 hT1 hS2 hS3 hT2 hT3 hst htl
              have hB0 := HBr.out
              have z0 := hB0.size
              go_wp2_with fail
              refine (HPF.out 0 _ (by omega)).mono ?_
              rintro e w1 ⟨rfl, hb1⟩
              have hB1 := hB0.trans (hb1.mono z0)
              have z1 := hB1.size
              have HB1 : Hid (Below w.heap.size w w1) := hB1
              clear hb1 hB1 hB0
              go_wp2_with fail
              go_loop [13, 14] (fun t13 t14 => ∃ j : Nat, j ≤ k ∧ t14 = .int .i64 j ∧ t13 = .string (F j)) (fun _ t14 => k - (intOf t14).toNat)
              case atStart => exact ⟨0, Nat.zero_le _, rfl, rfl⟩
              case round =>
                obtain ⟨j, hj, rfl, rfl⟩ := hrel
                have hzj := HFz.out j (by omega)
                by_cases c5 : j < k
                · have c5i : (j : Int) < (k : Int) := by omega
                  have hFj := HFj.out j
                  have hz48 : (⟨#[48]⟩ : ByteArray).size = 1 := rfl
                  go_wp2
                  go_round
                  case rel => exact ⟨j + 1, by omega, by go_num, rfl⟩
                  case measure => simp [intOf]; omega
                · have e : j = k := by omega
                  subst e
                  have hFe := HFe.out j
                  have hz48 : (⟨#[101, 48]⟩ : ByteArray).size = 2 := rfl
                  go_wp2_with fail
                  refine (HPF.out j _ (by omega)).mono ?_
                  rintro e w2 ⟨rfl, hb2⟩
                  have hB2 := HB1.out.trans (hb2.mono z1)
                  have z2 := hB2.size
                  clear hb2
                  go_wp2_with fail
                  refine (HPG.out j _ (by omega)).mono ?_
                  rintro e w3 ⟨rfl, hb3⟩
                  have hB3 := hB2.trans (hb3.mono z2)
                  have z3 := hB3.size
                  clear hb3 hB2
                  go_wp2_with fail
                  refine (HNr.out _).mono ?_
                  rintro e w4 ⟨rfl, hb4⟩
                  have hB4 := hB3.trans (hb4.mono z3)
                  have z4 := hB4.size
                  clear hb4 hB3
                  go_wp2_with fail
                  refine (decLives_any w4).mono ?_
                  rintro e w5 ⟨rfl, hb5⟩
                  have HB5 : Hid (Below w.heap.size w w5) := hB4.trans (hb5.mono z4)
                  clear hb5 hB4
                  go_wp2
                  go_ret
                  exact ⟨rfl, HB5.out⟩
      · have ci : (i : Int) < (n : Int) := by omega
        have ci1 : ¬ (i : Int) < 40 := by omega
        obtain ⟨wa, rfl⟩ : ∃ wa, wa = wr := ⟨_, rfl⟩
        go_wp2_with fail
        go_loopw [8, 10] (fun t8 t10 wr => ∃ (i : Nat) (s : ByteArray), i ≤ m ∧ i ≤ 40 ∧ t10 = .int .i64 i ∧ t8 = .string s ∧ s.size ≤ 41 ∧ Hid (∃ S, s = bs S ∧ AllD S ∧ S.length = i + 1) ∧ Hid (Below w.heap.size w wr)) (fun _ t10 _ => 40 - (intOf t10).toNat)
        case atStart => exact ⟨0, ⟨#[53]⟩, Nat.zero_le _, by omega, rfl, rfl, by decide, ⟨[53], H5.out.1, H5.out.2, rfl⟩, HBr.out⟩
        case round =>
          obtain ⟨i2, t, hin2, hi42, rfl, rfl, htt, HT, HBr⟩ := hrel
          by_cases c3 : i2 < m ∧ i2 < 40
          · obtain ⟨c1, c2⟩ := c3
            obtain ⟨x, rfl, hce, hd⟩ := (HB.out.below HBr.out (Nat.le_refl _)).at (i := i2) (by have := HM.out; omega)
            generalize lb.getD i2 0 = b at hce hd
            have c1i : (i2 : Int) < (m : Int) := by omega
            have c2i : (i2 : Int) < 40 := by omega
            have c3i : (0 : Int) ≤ (i2 : Int) := by omega
            obtain ⟨d, hdd⟩ : ∃ d, d = 48 + b % 10 := ⟨_, rfl⟩
            obtain ⟨r, hr⟩ : ∃ r, r = b % 10 := ⟨_, rfl⟩
            have e1 : (b : Int) % 10 = (r : Int) := by omega
            have e2 : 48 + (r : Int) = (d : Int) := by omega
            have hr9 : r < 10 := by omega
            have hd5 : d < 58 := by omega
            have hcv := conv_one wr d
            have HT2 : Hid (∃ S, t ++ bs [UInt8.ofNat d] = bs S ∧ AllD S ∧ S.length = i2 + 1 + 1) := by
              obtain ⟨S, h1, h2, h3⟩ := HT.out
              refine ⟨S ++ [UInt8.ofNat d], ?_, allD_snoc h2 (by rw [hdd]; exact isD_ten b), by simp [h3]⟩
              rw [h1, bs_append]
            have hsz2 : (t ++ bs [UInt8.ofNat d]).size ≤ 41 := by
              obtain ⟨S, h1, h2, h3⟩ := HT2.out
              rw [h1, bs_size, h3]; omega
            have hs1 : (bs [UInt8.ofNat d]).size = 1 := by rw [bs_size]; rfl
            generalize bs [UInt8.ofNat d] = cs at *
            have HBn : Hid (Below w.heap.size w (wr.alloc (.cells #[.int .u8 (d : Int)] 5))) := HBr.out.alloc HBr.out.size _
            clear hdd hr HT
            go_wp2
            go_roundw
            case rel => exact ⟨i2 + 1, t ++ cs, by omega, by omega, by go_num, rfl, hsz2, HT2, HBn⟩
            case measure => simp [intOf]; omega
          · have hex2 : ¬ i2 < m ∨ (i2 < m ∧ ¬ i2 < 40) := by omega
            rcases hex2 with c4 | ⟨c4, c5⟩
            · have ci2 : ¬ (i2 : Int) < (m : Int) := by omega
              obtain ⟨S, hS1, hS2, hS3⟩ := HS.out
              obtain ⟨T, hT1, hT2, hT3⟩ := HT.out
              have HV : Hid (∀ (j : Nat) (R : List UInt8), (R = [] ∨ ∃ c r, R = c :: r ∧ isD c = false) → Txt.expo R = some 0 → R.length ≤ 2 → j ≤ 255 → parseW (S ++ 46 :: (T ++ List.replicate j 48 ++ R)) = (decN (dv (S ++ T) 0) (-(T.length : Int)), 0)) :=
                fun j R h1 h2 h3 h4 => parse_noughts j hS2 (fun e => by rw [e] at hS3; simp at hS3) hT2 (fun e => by rw [e] at hT3; simp at hT3) h1 h2 (by omega)
              have hNr := fun w => near_any (S ++ T) (-(T.length : Int)) w (allD_app hS2 hT2) (by rw [List.length_append]; omega) (by omega) (by omega)
              have HU0 : Hid (s ++ ⟨#[46]⟩ ++ t = bs (S ++ 46 :: (T ++ List.replicate 0 48 ++ []))) := by
                show _ = _
                rw [hS1, hT1, show (⟨#[46]⟩ : ByteArray) = bs [46] from rfl, bs_append, bs_append]; simp
              have HUj : Hid (∀ j, bs (S ++ 46 :: (T ++ List.replicate j 48 ++ [])) ++ ⟨#[48]⟩ = bs (S ++ 46 :: (T ++ List.replicate (j + 1) 48 ++ []))) := fun j => by
                rw [show (⟨#[48]⟩ : ByteArray) = bs [48] from rfl, bs_append, List.replicate_succ']; simp
              have HUe : Hid (∀ j, bs (S ++ 46 :: (T ++ List.replicate j 48 ++ [])) ++ ⟨#[101, 48]⟩ = bs (S ++ 46 :: (T ++ List.replicate j 48 ++ [101, 48]))) := fun j => by
                rw [show (⟨#[101, 48]⟩ : ByteArray) = bs [101, 48] from rfl, bs_append]; simp
              have HSz : Hid (∀ j, j ≤ 255 → (bs (S ++ 46 :: (T ++ List.replicate j 48 ++ []))).size ≤ 340) := fun j hj => by rw [bs_size]; simp; omega
              have hP : ∀ (j : Nat) (w : World), j ≤ 255 → Calls Tryd.prog 7 #[.string (bs (S ++ 46 :: (T ++ List.replicate j 48 ++ [])))] w fun e w' => e = .returned (.tuple #[.int .u64 (decN (dv (S ++ T) 0) (-(T.length : Int)) : Nat), .int .i64 (0 : Nat)]) ∧ Below w.heap.size w w' := fun j w hj => by
                have := parse_any (S ++ 46 :: (T ++ List.replicate j 48 ++ [])) w (by unfold maxLen; simp; omega)
                rw [HV.out j [] (Or.inl rfl) expo_nil (by decide) hj] at this
                exact this
              have hPe : ∀ (j : Nat) (w : World), j ≤ 255 → Calls Tryd.prog 7 #[.string (bs (S ++ 46 :: (T ++ List.replicate j 48 ++ [101, 48])))] w fun e w' => e = .returned (.tuple #[.int .u64 (decN (dv (S ++ T) 0) (-(T.length : Int)) : Nat), .int .i64 (0 : Nat)]) ∧ Below w.heap.size w w' := fun j w hj => by
                have := parse_any (S ++ 46 :: (T ++ List.replicate j 48 ++ [101, 48])) w (by unfold maxLen; simp; omega)
                rw [HV.out j [101, 48] (Or.inr ⟨101, [48], rfl, rfl⟩) expo_e0 (by decide) hj] at this
                exact this
              have hst : s ++ t = bs (S ++ T) := by rw [hS1, hT1, bs_append]
              have htl : t.size = T.length := by rw [hT1, bs_size]
              rw [← hst, ← htl] at hNr
              rw [← htl] at hP hPe
              have HP : Hid (∀ (j : Nat) (w : World), j ≤ 255 → Calls Tryd.prog 7 #[.string (bs (S ++ 46 :: (T ++ List.replicate j 48 ++ [])))] w fun e w' => e = .returned (.tuple #[.int .u64 (decN (dv (S ++ T) 0) (-(t.size : Int)) : Nat), .int .i64 (0 : Nat)]) ∧ Below w.heap.size w w') := hP
              have HPe : Hid (∀ (j : Nat) (w : World), j ≤ 255 → Calls Tryd.prog 7 #[.string (bs (S ++ 46 :: (T ++ List.replicate j 48 ++ [101, 48])))] w fun e w' => e = .returned (.tuple #[.int .u64 (decN (dv (S ++ T) 0) (-(t.size : Int)) : Nat), .int .i64 (0 : Nat)]) ∧ Below w.heap.size w w') := hPe
              have hU0 := HU0.out
              obtain ⟨F, hF⟩ : ∃ F : Nat → ByteArray, F = fun j => bs (S ++ 46 :: (T ++ List.replicate j 48 ++ [])) := ⟨_, rfl⟩
              obtain ⟨G, hG⟩ : ∃ G : Nat → ByteArray, G = fun j => bs (S ++ 46 :: (T ++ List.replicate j 48 ++ [101, 48])) := ⟨_, rfl⟩
              have HFj : Hid (∀ j, F j ++ ⟨#[48]⟩ = F (j + 1)) := by rw [hF]; exact HUj.out
              have HFe : Hid (∀ j, F j ++ ⟨#[101, 48]⟩ = G j) := by rw [hF, hG]; exact HUe.out
              have HFz : Hid (∀ j, j ≤ 255 → (F j).size ≤ 340) := by rw [hF]; exact HSz.out
              generalize decN (dv (S ++ T) 0) (-(t.size : Int)) = V at *
              have HPF : Hid (∀ (j : Nat) (w : World), j ≤ 255 → Calls Tryd.prog 7 #[.string (F j)] w fun e w' => e = .returned (.tuple #[.int .u64 (V : Nat), .int .i64 (0 : Nat)]) ∧ Below w.heap.size w w') := by rw [hF]; exact HP.out
              have HPG : Hid (∀ (j : Nat) (w : World), j ≤ 255 → Calls Tryd.prog 7 #[.string (G j)] w fun e w' => e = .returned (.tuple #[.int .u64 (V : Nat), .int .i64 (0 : Nat)]) ∧ Below w.heap.size w w') := by rw [hG]; exact HPe.out
              have hU1 : s ++ ⟨#[46]⟩ ++ t = F 0 := by rw [hF]; exact hU0
              have hz46 : (⟨#[46]⟩ : ByteArray).size = 1 := rfl
              have hz47 : (s ++ ⟨#[46]⟩).size ≤ 42 := by rw [hS1, show (⟨#[46]⟩ : ByteArray) = bs [46] from rfl, bs_append, bs_size, List.length_append]; simp; omega
              have HNr : Hid (∀ w, Calls Tryd.prog 13 #[.agg #[.string (s ++ t), .int .i64 (-(t.size : Int))]] w fun e w' => e = .returned (.int .u64 (V : Nat)) ∧ Below w.heap.size w w') := hNr
              generalize hsd : s ++ ⟨#[46]⟩ = sd at *
              generalize hss2 : s ++ t = sst at *
              clear HV hNr HU0 HUj HUe HSz hP hPe HP HPe hU0 hF hG hS1 hT1 hS2 hS3 hT2 hT3 hst htl
              have hB0 := HBr.out
              have z0 := hB0.size
              go_wp2_with fail
              refine (HPF.out 0 _ (by omega)).mono ?_
              rintro e w1 ⟨rfl, hb1⟩
              have hB1 := hB0.trans (hb1.mono z0)
              have z1 := hB1.size
              have HB1 : Hid (Below w.heap.size w w1) := hB1
              clear hb1 hB1 hB0
              go_wp2_with fail
              go_loop [13, 14] (fun t13 t14 => ∃ j : Nat, j ≤ k ∧ t14 = .int .i64 j ∧ t13 = .string (F j)) (fun _ t14 => k - (intOf t14).toNat)
              case atStart => exact ⟨0, Nat.zero_le _, rfl, rfl⟩
              case round =>
                obtain ⟨j, hj, rfl, rfl⟩ := hrel
                have hzj := HFz.out j (by omega)
                by_cases c5 : j < k
                · have c5i : (j : Int) < (k : Int) := by omega
                  have hFj := HFj.out j
                  have hz48 : (⟨#[48]⟩ : ByteArray).size = 1 := rfl
                  go_wp2
                  go_round
                  case rel => exact ⟨j + 1, by omega, by go_num, rfl⟩
                  case measure => simp [intOf]; omega
                · have e : j = k := by omega
                  subst e
                  have hFe := HFe.out j
                  have hz48 : (⟨#[101, 48]⟩ : ByteArray).size = 2 := rfl
                  go_wp2_with fail
                  refine (HPF.out j _ (by omega)).mono ?_
                  rintro e w2 ⟨rfl, hb2⟩
                  have hB2 := HB1.out.trans (hb2.mono z1)
                  have z2 := hB2.size
                  clear hb2
                  go_wp2_with fail
                  refine (HPG.out j _ (by omega)).mono ?_
                  rintro e w3 ⟨rfl, hb3⟩
                  have hB3 := hB2.trans (hb3.mono z2)
                  have z3 := hB3.size
                  clear hb3 hB2
                  go_wp2_with fail
                  refine (HNr.out _).mono ?_
                  rintro e w4 ⟨rfl, hb4⟩
                  have hB4 := hB3.trans (hb4.mono z3)
                  have z4 := hB4.size
                  clear hb4 hB3
                  go_wp2_with fail
                  refine (decLives_any w4).mono ?_
                  rintro e w5 ⟨rfl, hb5⟩
                  have HB5 : Hid (Below w.heap.size w w5) := hB4.trans (hb5.mono z4)
                  clear hb5 hB4
                  go_wp2
                  go_ret
                  exact ⟨rfl, HB5.out⟩
            · have ci2 : (i2 : Int) < (m : Int) := by omega
              have ci3 : ¬ (i2 : Int) < 40 := by omega
              obtain ⟨S, hS1, hS2, hS3⟩ := HS.out
              obtain ⟨T, hT1, hT2, hT3⟩ := HT.out
              have HV : Hid (∀ (j : Nat) (R : List UInt8), (R = [] ∨ ∃ c r, R = c :: r ∧ isD c = false) → Txt.expo R = some 0 → R.length ≤ 2 → j ≤ 255 → parseW (S ++ 46 :: (T ++ List.replicate j 48 ++ R)) = (decN (dv (S ++ T) 0) (-(T.length : Int)), 0)) :=
                fun j R h1 h2 h3 h4 => parse_noughts j hS2 (fun e => by rw [e] at hS3; simp at hS3) hT2 (fun e => by rw [e] at hT3; simp at hT3) h1 h2 (by omega)
              have hNr := fun w => near_any (S ++ T) (-(T.length : Int)) w (allD_app hS2 hT2) (by rw [List.length_append]; omega) (by omega) (by omega)
              have HU0 : Hid (s ++ ⟨#[46]⟩ ++ t = bs (S ++ 46 :: (T ++ List.replicate 0 48 ++ []))) := by
                show _ = _
                rw [hS1, hT1, show (⟨#[46]⟩ : ByteArray) = bs [46] from rfl, bs_append, bs_append]; simp
              have HUj : Hid (∀ j, bs (S ++ 46 :: (T ++ List.replicate j 48 ++ [])) ++ ⟨#[48]⟩ = bs (S ++ 46 :: (T ++ List.replicate (j + 1) 48 ++ []))) := fun j => by
                rw [show (⟨#[48]⟩ : ByteArray) = bs [48] from rfl, bs_append, List.replicate_succ']; simp
              have HUe : Hid (∀ j, bs (S ++ 46 :: (T ++ List.replicate j 48 ++ [])) ++ ⟨#[101, 48]⟩ = bs (S ++ 46 :: (T ++ List.replicate j 48 ++ [101, 48]))) := fun j => by
                rw [show (⟨#[101, 48]⟩ : ByteArray) = bs [101, 48] from rfl, bs_append]; simp
              have HSz : Hid (∀ j, j ≤ 255 → (bs (S ++ 46 :: (T ++ List.replicate j 48 ++ []))).size ≤ 340) := fun j hj => by rw [bs_size]; simp; omega
              have hP : ∀ (j : Nat) (w : World), j ≤ 255 → Calls Tryd.prog 7 #[.string (bs (S ++ 46 :: (T ++ List.replicate j 48 ++ [])))] w fun e w' => e = .returned (.tuple #[.int .u64 (decN (dv (S ++ T) 0) (-(T.length : Int)) : Nat), .int .i64 (0 : Nat)]) ∧ Below w.heap.size w w' := fun j w hj => by
                have := parse_any (S ++ 46 :: (T ++ List.replicate j 48 ++ [])) w (by unfold maxLen; simp; omega)
                rw [HV.out j [] (Or.inl rfl) expo_nil (by decide) hj] at this
                exact this
              have hPe : ∀ (j : Nat) (w : World), j ≤ 255 → Calls Tryd.prog 7 #[.string (bs (S ++ 46 :: (T ++ List.replicate j 48 ++ [101, 48])))] w fun e w' => e = .returned (.tuple #[.int .u64 (decN (dv (S ++ T) 0) (-(T.length : Int)) : Nat), .int .i64 (0 : Nat)]) ∧ Below w.heap.size w w' := fun j w hj => by
                have := parse_any (S ++ 46 :: (T ++ List.replicate j 48 ++ [101, 48])) w (by unfold maxLen; simp; omega)
                rw [HV.out j [101, 48] (Or.inr ⟨101, [48], rfl, rfl⟩) expo_e0 (by decide) hj] at this
                exact this
              have hst : s ++ t = bs (S ++ T) := by rw [hS1, hT1, bs_append]
              have htl : t.size = T.length := by rw [hT1, bs_size]
              rw [← hst, ← htl] at hNr
              rw [← htl] at hP hPe
              have HP : Hid (∀ (j : Nat) (w : World), j ≤ 255 → Calls Tryd.prog 7 #[.string (bs (S ++ 46 :: (T ++ List.replicate j 48 ++ [])))] w fun e w' => e = .returned (.tuple #[.int .u64 (decN (dv (S ++ T) 0) (-(t.size : Int)) : Nat), .int .i64 (0 : Nat)]) ∧ Below w.heap.size w w') := hP
              have HPe : Hid (∀ (j : Nat) (w : World), j ≤ 255 → Calls Tryd.prog 7 #[.string (bs (S ++ 46 :: (T ++ List.replicate j 48 ++ [101, 48])))] w fun e w' => e = .returned (.tuple #[.int .u64 (decN (dv (S ++ T) 0) (-(t.size : Int)) : Nat), .int .i64 (0 : Nat)]) ∧ Below w.heap.size w w') := hPe
              have hU0 := HU0.out
              obtain ⟨F, hF⟩ : ∃ F : Nat → ByteArray, F = fun j => bs (S ++ 46 :: (T ++ List.replicate j 48 ++ [])) := ⟨_, rfl⟩
              obtain ⟨G, hG⟩ : ∃ G : Nat → ByteArray, G = fun j => bs (S ++ 46 :: (T ++ List.replicate j 48 ++ [101, 48])) := ⟨_, rfl⟩
              have HFj : Hid (∀ j, F j ++ ⟨#[48]⟩ = F (j + 1)) := by rw [hF]; exact HUj.out
              have HFe : Hid (∀ j, F j ++ ⟨#[101, 48]⟩ = G j) := by rw [hF, hG]; exact HUe.out
              have HFz : Hid (∀ j, j ≤ 255 → (F j).size ≤ 340) := by rw [hF]; exact HSz.out
              generalize decN (dv (S ++ T) 0) (-(t.size : Int)) = V at *
              have HPF : Hid (∀ (j : Nat) (w : World), j ≤ 255 → Calls Tryd.prog 7 #[.string (F j)] w fun e w' => e = .returned (.tuple #[.int .u64 (V : Nat), .int .i64 (0 : Nat)]) ∧ Below w.heap.size w w') := by rw [hF]; exact HP.out
              have HPG : Hid (∀ (j : Nat) (w : World), j ≤ 255 → Calls Tryd.prog 7 #[.string (G j)] w fun e w' => e = .returned (.tuple #[.int .u64 (V : Nat), .int .i64 (0 : Nat)]) ∧ Below w.heap.size w w') := by rw [hG]; exact HPe.out
              have hU1 : s ++ ⟨#[46]⟩ ++ t = F 0 := by rw [hF]; exact hU0
              have hz46 : (⟨#[46]⟩ : ByteArray).size = 1 := rfl
              have hz47 : (s ++ ⟨#[46]⟩).size ≤ 42 := by rw [hS1, show (⟨#[46]⟩ : ByteArray) = bs [46] from rfl, bs_append, bs_size, List.length_append]; simp; omega
              have HNr : Hid (∀ w, Calls Tryd.prog 13 #[.agg #[.string (s ++ t), .int .i64 (-(t.size : Int))]] w fun e w' => e = .returned (.int .u64 (V : Nat)) ∧ Below w.heap.size w w') := hNr
              generalize hsd : s ++ ⟨#[46]⟩ = sd at *
              generalize hss2 : s ++ t = sst at *
              clear HV hNr HU0 HUj HUe HSz hP hPe HP HPe hU0 hF hG hS1 hT1 hS2 hS3 hT2 hT3 hst htl
              have hB0 := HBr.out
              have z0 := hB0.size
              go_wp2_with fail
              refine (HPF.out 0 _ (by omega)).mono ?_
              rintro e w1 ⟨rfl, hb1⟩
              have hB1 := hB0.trans (hb1.mono z0)
              have z1 := hB1.size
              have HB1 : Hid (Below w.heap.size w w1) := hB1
              clear hb1 hB1 hB0
              go_wp2_with fail
              go_loop [13, 14] (fun t13 t14 => ∃ j : Nat, j ≤ k ∧ t14 = .int .i64 j ∧ t13 = .string (F j)) (fun _ t14 => k - (intOf t14).toNat)
              case atStart => exact ⟨0, Nat.zero_le _, rfl, rfl⟩
              case round =>
                obtain ⟨j, hj, rfl, rfl⟩ := hrel
                have hzj := HFz.out j (by omega)
                by_cases c5 : j < k
                · have c5i : (j : Int) < (k : Int) := by omega
                  have hFj := HFj.out j
                  have hz48 : (⟨#[48]⟩ : ByteArray).size = 1 := rfl
                  go_wp2
                  go_round
                  case rel => exact ⟨j + 1, by omega, by go_num, rfl⟩
                  case measure => simp [intOf]; omega
                · have e : j = k := by omega
                  subst e
                  have hFe := HFe.out j
                  have hz48 : (⟨#[101, 48]⟩ : ByteArray).size = 2 := rfl
                  go_wp2_with fail
                  refine (HPF.out j _ (by omega)).mono ?_
                  rintro e w2 ⟨rfl, hb2⟩
                  have hB2 := HB1.out.trans (hb2.mono z1)
                  have z2 := hB2.size
                  clear hb2
                  go_wp2_with fail
                  refine (HPG.out j _ (by omega)).mono ?_
                  rintro e w3 ⟨rfl, hb3⟩
                  have hB3 := hB2.trans (hb3.mono z2)
                  have z3 := hB3.size
                  clear hb3 hB2
                  go_wp2_with fail
                  refine (HNr.out _).mono ?_
                  rintro e w4 ⟨rfl, hb4⟩
                  have hB4 := hB3.trans (hb4.mono z3)
                  have z4 := hB4.size
                  clear hb4 hB3
                  go_wp2_with fail
                  refine (decLives_any w4).mono ?_
                  rintro e w5 ⟨rfl, hb5⟩
                  have HB5 : Hid (Below w.heap.size w w5) := hB4.trans (hb5.mono z4)
                  clear hb5 hB4
                  go_wp2
                  go_ret
                  exact ⟨rfl, HB5.out⟩

end Go.Proofs.YtngpdpmhjhgafaaDoor

/-
  Bytes and small numbers that came in.
-/
namespace Go.Proofs.YtngpdpmhjhgafaaDoor
set_option maxRecDepth 100000
open Go.ChangeShapes Go.WideShapes Go.ChangeAt Go.RowKit Txt

theorem open_rb {H : Type} {enc : TypeId × Value → H} {W : World} {base : Nat} {v : Value} {d : DataW H} {p : List MemPlace}
    (hval : Value.okWide Tryd.prog W .any base 36 v) (h0 : DataW.Trod enc Tryd.prog W 0 (fun _ => true) true 36 v d p) : ∃ l, RB W v l := by
  obtain ⟨a, len, cap, rfl⟩ := okWide_slice Tryd.underlying36 hval
  obtain ⟨fuel, hf⟩ := h0
  rcases open_ints Tryd.underlying36 Tryd.underlying5 (by kernel_rfl) hf with ⟨hcs, hx⟩ | ⟨x, n, c, zs, hcs, _, hl, hm, hz, hx, hcell, hwz⟩
  · simp [Value.cells] at hcs
    obtain ⟨rfl, rfl, rfl⟩ := hcs
    exact ⟨[], fun d hd => (by cases hd), by unfold maxLen; simp, none, 0, rfl, fun i hi => by simp at hi⟩
  · simp [Value.cells] at hcs
    obtain ⟨rfl, rfl, rfl⟩ := hcs
    have hz' : zs.length = cap := by simpa using hz
    have hb : ∀ z ∈ zs, 0 ≤ z ∧ z < 256 := by
      intro z hz
      have := bounds_u8 (hwz z hz)
      omega
    have hlen : ((zs.take len).map Int.toNat).length = len := by rw [List.length_map, List.length_take]; omega
    refine ⟨(zs.take len).map Int.toNat, ?_, by rw [hlen]; exact Nat.le_trans hl hm, some x, cap, by rw [hlen], ?_⟩
    · intro d hd
      obtain ⟨z, hz, rfl⟩ := List.mem_map.1 hd
      have := hb z (List.mem_of_mem_take hz)
      omega
    · intro i hi
      rw [hlen] at hi
      have hi2 : i < zs.length := by omega
      refine ⟨x, rfl, ?_⟩
      rw [hcell i hi2]
      have e1 : zs.getD i 0 = zs[i] := by rw [List.getD_eq_getElem?_getD, List.getElem?_eq_getElem hi2]; rfl
      have e2 : ((zs.take len).map Int.toNat).getD i 0 = zs[i].toNat := by
        rw [List.getD_eq_getElem?_getD, List.getElem?_map, List.getElem?_take_of_lt hi, List.getElem?_eq_getElem hi2]; rfl
      rw [e1, e2]
      have := hb zs[i] (List.getElem_mem hi2)
      rw [Int.toNat_of_nonneg this.1]
theorem open_u8 {W : World} {base : Nat} {v : Value} (hval : Value.okWide Tryd.prog W .any base 5 v) : ∃ k : Nat, v = .int .u8 (k : Int) ∧ k < 256 := by
  simp only [Value.okWide, Tryd.underlying5, Cell.okWide] at hval
  cases v <;> simp_all [Cell.ok]
  next a n =>
    have h := hval.2
    simp [IntKind.has, IntKind.min, IntKind.max, IntKind.signed, IntKind.bits] at h
    exact ⟨n.toNat, by omega, by omega⟩

end Go.Proofs.YtngpdpmhjhgafaaDoor

/-
  For all bytes and every number: noughts behind digits behind a dot, and an exponent of 0, change nothing of what is read, and that is the nearest number: the statement DecNoughts, with no condition.
-/
namespace Go.Proofs.YtngpdpmhjhgafaaDoor.decNoughts
set_option maxRecDepth 100000
open Go.ChangeShapes Go.WideShapes Go.ChangeAt Go.RowKit

theorem contract (H : Type) (enc : TypeId × Value → H) (W : World) (base : Nat) (args : Array Value) (ds gs : List (DataW H)) (before : List MemPlace)
    (hval0 : ∀ (j : Nat) t v, Tryd.f5.params[j]? = some t → args[j]? = some v → Value.okWide Tryd.prog W .any base t v)
    (hW : DataW.Whole enc Tryd.prog Tryd.f5.params.toList Rows.decNoughtsSpec.vars false W args.toList ds gs before)
    (hsz : (DataW.weightsEach Tryd.prog (Tryd.f5.params.toList ++ (OpenSpec.ofChange Rows.decNoughtsSpec).bare.plain.varTypes Tryd.prog) (ds ++ gs)).all (· ≤ reachBytes) = true) :
    Calls Tryd.prog 5 args W fun e W' => ∃ v, e = .returned v ∧ Rows.decNoughtsSpec.post enc Tryd.prog Tryd.f5 false true false false W args v W' := by
  have hval : ∀ (j : Nat) t v, Tryd.f5.params[j]? = some t → args[j]? = some v → Value.okWide Tryd.prog W .any base t v := hval0
  have hW' := hW
  obtain ⟨p, q, hA0, hV, rfl, hfz, hnd⟩ := hW
  have hA : DataW.TrodAll enc Tryd.prog W 0 (fun _ => true) true Tryd.f5.params.toList args.toList ds p := hA0
  rw [Tryd.params5] at hA hval hsz
  obtain ⟨v0, vs0, d0, ds0, p0, q0, hargs, rfl, rfl, h0, r0⟩ := trodAll_cons hA
  obtain ⟨v1, vs1, d1, ds1, p1, q1, e1, rfl, rfl, h1, r1⟩ := trodAll_cons r0
  subst e1
  obtain ⟨v2, vs2, d2, ds2, p2, q2, e2, rfl, rfl, h2, r2⟩ := trodAll_cons r1
  subst e2
  obtain ⟨rfl, rfl, rfl⟩ := trodAll_nil r2
  obtain rfl : args = #[v0, v1, v2] := by cases args; simp_all
  obtain ⟨rfl, rfl⟩ := trodVars_none hV
  have lt0 : ∀ x ∈ p0, x.block < W.heap.size := by obtain ⟨m, hm⟩ := h0; exact DataW.trod_lt m _ _ _ hm
  obtain ⟨l0, b0⟩ := open_rb (hval 0 36 v0 rfl rfl) h0
  have lt1 : ∀ x ∈ p1, x.block < W.heap.size := by obtain ⟨m, hm⟩ := h1; exact DataW.trod_lt m _ _ _ hm
  obtain ⟨l1, b1⟩ := open_rb (hval 1 36 v1 rfl rfl) h1
  have lt2 : ∀ x ∈ p2, x.block < W.heap.size := by obtain ⟨m, hm⟩ := h2; exact DataW.trod_lt m _ _ _ hm
  obtain ⟨k2, rfl, g2⟩ := open_u8 (hval 2 5 v2 rfl rfl)
  clear hA0 hval0
  refine (decNoughts_walk v0 v1 l0 l1 k2 W b0 b1 g2).mono fun e W' ⟨he, bel⟩ => ?_
  subst he
  exact ⟨_, rfl, _, _, _, [], _, [], hW', trodAll_mk1 (shut_bool Tryd.underlying4 _), (trodAll_cons_mk (Below.trod laidOut (by kernel_rfl) (of_decide_eq_true (by kernel_rfl)) h0 bel lt0) (trodAll_cons_mk (Below.trod laidOut (by kernel_rfl) (of_decide_eq_true (by kernel_rfl)) h1 bel lt1) (trodAll_cons_mk (Below.trod laidOut (by kernel_rfl) (of_decide_eq_true (by kernel_rfl)) h2 bel lt2) trodAll_mk0))), rfl, bel.frame _, fun h => by cases h⟩

theorem laid_met (os : Os) : laidMet Tryd.prog Rows.decNoughtsRow.laid ((World.doorLaid Tryd.prog 4000 os).forCall (fun _ _ => 0) ⟨#[], #[.slice none 0 0, .slice none 0 0, .int .u8 0], []⟩).memory :=
  laidMet_of_run' 8 (by kernel_rfl) (by kernel_rfl)
theorem reads (os : Os) {H : Type} (enc : TypeId × Value → H) : ∃ places, DataW.whole enc Tryd.prog ((World.doorLaid Tryd.prog 4000 os).forCall (fun _ _ => 0) ⟨#[], #[.slice none 0 0, .slice none 0 0, .int .u8 0], []⟩).memory Tryd.f5.params.toList Rows.decNoughtsSpec.vars false (#[.slice none 0 0, .slice none 0 0, .int .u8 0] : Array Value).toList 8 = some ([.nil, .nil, .lit (.int .u8 0)], [], places) :=
  ⟨[], by kernel_rfl⟩

set_option maxRecDepth 100000 in
theorem lifted (os : Os) (started : os.Started) (H : Type) (enc : TypeId × Value → H) (F : Stop.Interp) :
    ReturnsInHanded {} Tryd.checked os 5 .any ((OpenSpec.ofChange Rows.decNoughtsSpec).preRow enc Tryd.prog Tryd.f5 Rows.decNoughtsRow.domain false Rows.decNoughtsRow.laid) (((OpenSpec.ofChange Rows.decNoughtsSpec).at F).post enc Tryd.prog Tryd.f5 false true false false) := by
  obtain ⟨places, hx⟩ := reads os enc
  refine returnsInHanded_of_row (C := Tryd.checked) (s := OpenSpec.ofChange Rows.decNoughtsSpec) ownKnob_none started (by kernel_rfl) Tryd.func5
    (witness_row_at (enc := enc) (C := Tryd.checked) false (World.doorLaid Tryd.prog 4000 os) #[.slice none 0 0, .slice none 0 0, .int .u8 0] rfl (by kernel_rfl) (by kernel_rfl) (by kernel_rfl)
      (OpenSpec.preRow_of_cond 8 hx (by kernel_rfl) (fun k hk => by cases hk) (by kernel_rfl) (laid_met os))) ?_
  intro W base args ds gs before hval hW _ _ hsz _ _ _
  exact contract H enc W base args ds gs before hval hW hsz

theorem said : Rows.DecNoughtsSaid :=
  OpenClaim.holds_of_cond 5 Tryd.f5 rfl rfl rfl rfl rfl rfl rfl ⟨rfl, rfl, rfl, rfl, rfl⟩ rfl rfl rfl rfl rfl (by kernel_rfl) Tryd.func5 (by kernel_rfl)
    (of_decide_eq_true (by kernel_rfl)) (by unfold Func.isWrapper; first | (rw [if_pos (by decide +kernel)]; kernel_rfl) | (rw [if_neg (by decide +kernel)]; exact ⟨rfl, rfl⟩))
    (fun os started H enc _ F => by rw [OpenClaim.pre_eq_preRow]; exact lifted os started H enc F)

theorem plain (f : FuncId) (fn : Func) (hf : Tryd.pinned.checked.prog.funcNamed "minstrel/minstrellaw05.DecNoughts" = some f) (hfn : Tryd.pinned.checked.prog.funcs[f]? = some fn) :
    false = Tryd.pinned.checked.prog.looks [] ∧ ∀ (j : Nat) t, fn.params[j]? = some t → Tryd.pinned.checked.prog.wantsStandIn t = false := by
  obtain rfl : f = 5 := Option.some.inj ((show Tryd.prog.funcNamed "minstrel/minstrellaw05.DecNoughts" = some 5 by kernel_rfl).symm.trans hf) |>.symm
  obtain rfl : fn = Tryd.f5 := (Option.some.inj (Tryd.func5.symm.trans hfn)).symm
  refine ⟨by kernel_rfl, fun j t ht => ?_⟩
  rw [Tryd.params5] at ht
  have hm : t ∈ [36, 36, 5] := by simpa using Array.mem_of_getElem? ht
  have hall : ([36, 36, 5].all fun u => !Tryd.prog.wantsStandIn u) = true := by kernel_rfl
  exact (show Tryd.prog.wantsStandIn t = false by simpa using List.all_eq_true.1 hall t hm)

/-- The statement. -/
theorem proved : Rows.DecNoughtsCardSaid :=
  Claim7.holds_tied_plain_at .later [] _ _ _ _ said (fun _ h => by cases h) (by kernel_rfl) (fun _ h => by cases h) decNoughts_row_tie rfl ⟨rfl, rfl⟩ (by kernel_rfl) rfl plain (by kernel_rfl)
end Go.Proofs.YtngpdpmhjhgafaaDoor.decNoughts
