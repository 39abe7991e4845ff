/-
  NgMath, DecNoughts, DcBytes, RsMath
-/
import Derived.Laws.BytesArg
import Derived.Test.YtngpdpmhjhgafaaDoorZ16

/-
  Noughts behind digits: the mathematics of DecNoughts.
-/
namespace Go.Proofs.YtngpdpmhjhgafaaDoor
set_option maxRecDepth 100000
open Go.RowKit Txt Flo

theorem dig_app {S X : List UInt8} (hS : AllD S) (hX : X = [] ∨ ∃ c r, X = c :: r ∧ isD c = false) : Txt.dig (S ++ X) = S ∧ rst (S ++ X) = X := by
  induction S with
  | nil =>
    rcases hX with rfl | ⟨c, r, rfl, hc⟩
    · exact ⟨rfl, rfl⟩
    · refine ⟨?_, ?_⟩
      · show (c :: r).takeWhile isD = []
        rw [List.takeWhile_cons, hc]; rfl
      · show (c :: r).dropWhile isD = c :: r
        rw [List.dropWhile_cons, hc]; rfl
  | cons a S ih =>
    have ha := hS a (by simp)
    have := ih (fun c hc => hS c (by simp [hc]))
    refine ⟨?_, ?_⟩
    · show (a :: (S ++ X)).takeWhile isD = a :: S
      rw [List.takeWhile_cons, ha, if_pos rfl]
      exact congrArg _ this.1
    · show (a :: (S ++ X)).dropWhile isD = X
      rw [List.dropWhile_cons, ha, if_pos rfl]
      exact this.2
theorem numL_dot {S U R : List UInt8} {e : Int} (hS : AllD S) (hS0 : S ≠ []) (hU : AllD U) (hU0 : U ≠ []) (hR : R = [] ∨ ∃ c r, R = c :: r ∧ isD c = false) (he : Txt.expo R = some e) : numL (S ++ 46 :: (U ++ R)) = some (S ++ U, e - U.length) := by
  have h1 := dig_app (X := 46 :: (U ++ R)) hS (Or.inr ⟨46, _, rfl, rfl⟩)
  have h2 := dig_app hU hR
  unfold numL
  rw [h1.1, h1.2, if_neg hS0]
  show (if (46 : UInt8).toNat = 46 then _ else _) = _
  rw [if_pos (show (46 : UInt8).toNat = 46 from rfl), h2.1, h2.2, if_neg hU0, he]
  rfl
theorem expo_nil : Txt.expo [] = some 0 := rfl
theorem expo_e0 : Txt.expo [101, 48] = some 0 := by decide
theorem dv_zeros (L : List UInt8) (k : Nat) : dv (L ++ List.replicate k 48) 0 = dv L 0 * 10 ^ k := by
  induction k with
  | zero => simp
  | succ k ih =>
    rw [List.replicate_succ', ← List.append_assoc, dv_snoc, ih, Nat.pow_succ, Nat.mul_assoc]
    rfl
theorem allD_zeros (k : Nat) : AllD (List.replicate k 48) := by
  intro c hc
  rw [List.eq_of_mem_replicate hc]
  rfl
theorem allD_app {A B : List UInt8} (hA : AllD A) (hB : AllD B) : AllD (A ++ B) := by
  intro c hc
  rcases List.mem_append.1 hc with h | h
  · exact hA c h
  · exact hB c h
theorem nearR_scale {A B c : Nat} (hB : 0 < B) (hc : 0 < c) : nearR (A * c) (B * c) = nearR A B := by
  by_cases hA : A = 0
  · subst hA; rw [Nat.zero_mul]; unfold nearR; rw [if_pos rfl, if_pos rfl]
  · have hAc : A * c ≠ 0 := Nat.mul_ne_zero hA (by omega)
    have hBc : 0 < B * c := Nat.mul_pos hB hc
    have h1 := enough hAc hBc
    generalize KN (B * c) = K at h1
    have e1 : A * c * 2 ^ K = A * 2 ^ K * c := by rw [Nat.mul_right_comm]
    have e2 : A * c * 2 ^ K / (B * c) = A * 2 ^ K / B := by rw [e1, Nat.mul_div_mul_right _ _ hc]
    have e3 : A * c * 2 ^ K % (B * c) = A * 2 ^ K % B * c := by rw [e1, Nat.mul_mod_mul_right]
    have e4 : stick (A * c) (B * c) K = stick A B K := by
      unfold stick
      rw [e2, e3]
      by_cases z : A * 2 ^ K % B = 0
      · rw [z, Nat.zero_mul, if_pos rfl]
      · rw [if_neg z, if_neg (Nat.mul_ne_zero z (by omega))]
    rw [← near_bits hAc hBc h1, ← near_bits (k := K) hA hB (by rw [← e2]; exact h1), e4]
theorem decN_noughts (M m k : Nat) (hm : 0 < m) : decN (M * 10 ^ k) (-((m + k : Nat) : Int)) = decN M (-(m : Int)) := by
  unfold decN
  rw [if_neg (by omega), if_neg (by omega), show (- -((m + k : Nat) : Int)).toNat = m + k by omega, show (- -(m : Int)).toNat = m by omega, Nat.pow_add]
  exact nearR_scale (Nat.pow_pos (by decide)) (Nat.pow_pos (by decide))
/-- What is parsed. -/
theorem parse_noughts {S T R : List UInt8} (k : Nat) (hS : AllD S) (hS0 : S ≠ []) (hT : AllD T) (hT0 : T ≠ []) (hR : R = [] ∨ ∃ c r, R = c :: r ∧ isD c = false) (he : Txt.expo R = some 0) (hl : S.length + T.length + k + R.length + 1 ≤ 400) :
    parseW (S ++ 46 :: (T ++ List.replicate k 48 ++ R)) = (decN (dv (S ++ T) 0) (-(T.length : Int)), 0) := by
  have hU0 : T ++ List.replicate k 48 ≠ [] := fun e => hT0 (List.append_eq_nil_iff.1 e).1
  have h1 := numL_dot (S := S) (U := T ++ List.replicate k 48) (R := R) hS hS0 (allD_app hT (allD_zeros k)) hU0 hR he
  have h2 := parseW_some (by simp; omega) h1
  rw [h2, ← List.append_assoc, dv_zeros]
  have hTl : 0 < T.length := List.length_pos_iff.2 hT0
  have e : (0 : Int) - (((T ++ List.replicate k 48).length : Nat) : Int) = -((T.length + k : Nat) : Int) := by rw [List.length_append, List.length_replicate]; omega
  rw [e, decN_noughts _ _ _ hTl]

end Go.Proofs.YtngpdpmhjhgafaaDoor

/-
  DecNoughts: the walk.
-/
namespace Go.Proofs.YtngpdpmhjhgafaaDoor
set_option maxRecDepth 100000
open Go.RowKit Txt

/-- The slice v reads as the bytes l. -/
def RB (w : World) (v : Value) (l : List Nat) : Prop :=
  (∀ d ∈ l, d < 256) ∧ l.length ≤ maxLen ∧ ∃ a cap, v = .slice a l.length cap ∧ ∀ i, i < l.length → ∃ x, a = some x ∧ w.cell? (x.add i) = some (.int .u8 (l.getD i 0 : Nat))
theorem RB.below {w w' : World} {B : Nat} {v : Value} {l : List Nat} (h : RB w v l) (hg : Below B w w') (hB : w.heap.size ≤ B) : RB w' v l := by
  obtain ⟨h1, h2, a, cap, h3, h4⟩ := h
  refine ⟨h1, h2, a, cap, h3, fun i hi => ?_⟩
  obtain ⟨x, e, hc⟩ := h4 i hi
  refine ⟨x, e, ?_⟩
  have := World.block_lt_of_cell? w _ hc
  rw [← hc]
  exact World.cell?_of_block (hg.block _ (by omega))
theorem RB.at {w : World} {a : Option Addr} {n cap : Nat} {l : List Nat} (h : RB w (.slice a n cap) l) {i : Nat} (hi : i < l.length) : ∃ x, a = some x ∧ w.cell? (x.add i) = some (.int .u8 (l.getD i 0 : Nat)) ∧ l.getD i 0 < 256 := by
  obtain ⟨h1, _, a', cap', h3, h4⟩ := h
  simp only [Value.slice.injEq] at h3
  obtain ⟨rfl, rfl, rfl⟩ := h3
  obtain ⟨x, e, hc⟩ := h4 i hi
  refine ⟨x, e, hc, ?_⟩
  rw [List.getD_eq_getElem?_getD, List.getElem?_eq_getElem hi]
  exact h1 _ (List.getElem_mem hi)
/-- One byte as a text. -/
theorem conv_one (w : World) (d : Nat) : (convert 36 9 (.slice (some ⟨w.heap.size, 0, none⟩) 1 1)).run Tryd.prog (w.alloc (.cells #[.int .u8 (d : Int)] 5)) = .ok (.string (bs [UInt8.ofNat d])) (w.alloc (.cells #[.int .u8 (d : Int)] 5)) := by
  have := run_convert_bytes_arg (P := Tryd.prog) (w.alloc (.cells #[.int .u8 (d : Int)] 5)) 36 5 Tryd.underlying36 Tryd.underlying5 w.heap.size 0 1 1 [(d : Int)] rfl (fun i hi => by
    have : i = 0 := by omega
    subst this
    exact cells_at5 _ _ _ _ rfl) 9 Tryd.underlying9
  rw [this]
  rfl
theorem isD_ten (b : Nat) : isD (UInt8.ofNat (48 + b % 10)) = true := by
  unfold isD
  have : (UInt8.ofNat (48 + b % 10)).toNat = 48 + b % 10 := by rw [UInt8.toNat_ofNat']; omega
  rw [this]
  apply decide_eq_true
  omega
theorem allD_snoc {S : List UInt8} {c : UInt8} (h : AllD S) (hc : isD c = true) : AllD (S ++ [c]) := allD_app h (fun x hx => by rw [List.mem_singleton.1 hx]; exact hc)

set_option maxRecDepth 100000 in
set_option maxHeartbeats 3200000 in
theorem decNoughts_walk (vf vb : Value) (lf lb : List Nat) (k : Nat) (w : World) (hf : RB w vf lf) (hb : RB w vb lb) (hk : k < 256) :
    Calls Tryd.prog 5 #[vf, vb, .int .u8 k] w fun e w' => e = .returned (.bool true) ∧ Below w.heap.size w w' := by
  have HF : Hid (RB w vf lf) := hf
  have HB : Hid (RB w vb lb) := hb
  obtain ⟨_, nf, af, cf, rfl, _⟩ := hf
  obtain ⟨_, nb, ab, cb, rfl, _⟩ := hb
  unfold maxLen at nf nb
  obtain ⟨n, hn⟩ : ∃ n, n = lf.length := ⟨_, rfl⟩
  obtain ⟨m, hm⟩ : ∃ m, m = lb.length := ⟨_, rfl⟩
  have HN : Hid (n = lf.length) := hn
  have HM : Hid (m = lb.length) := hm
  rw [← hn] at HF nf ⊢
  rw [← hm] at HB nb ⊢
  have H1 : Hid ((⟨#[49]⟩ : ByteArray) = bs [49] ∧ AllD [49]) := ⟨rfl, fun c hc => by rw [List.mem_singleton.1 hc]; rfl⟩
  have H5 : Hid ((⟨#[53]⟩ : ByteArray) = bs [53] ∧ AllD [53]) := ⟨rfl, fun c hc => by rw [List.mem_singleton.1 hc]; rfl⟩
  clear hn hm
  go_enter Tryd.func5, Tryd.ntmps5
  go_wp2_with fail
  go_loopw [7, 9] (fun t7 t9 wr => ∃ (i : Nat) (s : ByteArray), i ≤ n ∧ i ≤ 40 ∧ t9 = .int .i64 i ∧ t7 = .string s ∧ s.size ≤ 41 ∧ Hid (∃ S, s = bs S ∧ AllD S ∧ S.length = i + 1) ∧ Hid (Below w.heap.size w wr)) (fun _ t9 _ => 40 - (intOf t9).toNat)
  case atStart => exact ⟨0, ⟨#[49]⟩, Nat.zero_le _, by omega, rfl, rfl, by decide, ⟨[49], H1.out.1, H1.out.2, rfl⟩, Below.refl _ _⟩
  case round =>
    obtain ⟨i, s, hin, hi4, rfl, rfl, hss, HS, HBr⟩ := hrel
    by_cases c : i < n ∧ i < 40
    · obtain ⟨c1, c2⟩ := c
      obtain ⟨x, rfl, hce, hd⟩ := (HF.out.below HBr.out (Nat.le_refl _)).at (i := i) (by have := HN.out; omega)
      generalize lf.getD i 0 = b at hce hd
      have c1i : (i : Int) < (n : Int) := by omega
      have c2i : (i : Int) < 40 := by omega
      have c3i : (0 : Int) ≤ (i : Int) := by omega
      obtain ⟨d, hdd⟩ : ∃ d, d = 48 + b % 10 := ⟨_, rfl⟩
      obtain ⟨r, hr⟩ : ∃ r, r = b % 10 := ⟨_, rfl⟩
      have e1 : (b : Int) % 10 = (r : Int) := by omega
      have e2 : 48 + (r : Int) = (d : Int) := by omega
      have hr9 : r < 10 := by omega
      have hd5 : d < 58 := by omega
      have hcv := conv_one wr d
      have HS2 : Hid (∃ S, s ++ bs [UInt8.ofNat d] = bs S ∧ AllD S ∧ S.length = i + 1 + 1) := by
        obtain ⟨S, h1, h2, h3⟩ := HS.out
        refine ⟨S ++ [UInt8.ofNat d], ?_, allD_snoc h2 (by rw [hdd]; exact isD_ten b), by simp [h3]⟩
        rw [h1, bs_append]
      have hsz2 : (s ++ bs [UInt8.ofNat d]).size ≤ 41 := by
        obtain ⟨S, h1, h2, h3⟩ := HS2.out
        rw [h1, bs_size, h3]; omega
      have hs1 : (bs [UInt8.ofNat d]).size = 1 := by rw [bs_size]; rfl
      generalize bs [UInt8.ofNat d] = cs at *
      have HBn : Hid (Below w.heap.size w (wr.alloc (.cells #[.int .u8 (d : Int)] 5))) := HBr.out.alloc HBr.out.size _
      clear hdd hr HS
      go_wp2
      go_roundw
      case rel => exact ⟨i + 1, s ++ cs, by omega, by omega, by go_num, rfl, hsz2, HS2, HBn⟩
      case measure => simp [intOf]; omega
    · have hex : ¬ i < n ∨ (i < n ∧ ¬ i < 40) := by omega
      rcases hex with c1 | ⟨c1, c2⟩
      · have ci : ¬ (i : Int) < (n : Int) := by omega
        obtain ⟨wa, rfl⟩ : ∃ wa, wa = wr := ⟨_, rfl⟩
        go_wp2_with fail
        go_loopw [8, 10] (fun t8 t10 wr => ∃ (i : Nat) (s : ByteArray), i ≤ m ∧ i ≤ 40 ∧ t10 = .int .i64 i ∧ t8 = .string s ∧ s.size ≤ 41 ∧ Hid (∃ S, s = bs S ∧ AllD S ∧ S.length = i + 1) ∧ Hid (Below w.heap.size w wr)) (fun _ t10 _ => 40 - (intOf t10).toNat)
        case atStart => exact ⟨0, ⟨#[53]⟩, Nat.zero_le _, by omega, rfl, rfl, by decide, ⟨[53], H5.out.1, H5.out.2, rfl⟩, HBr.out⟩
        case round =>
          obtain ⟨i2, t, hin2, hi42, rfl, rfl, htt, HT, HBr⟩ := hrel
          by_cases c3 : i2 < m ∧ i2 < 40
          · obtain ⟨c1, c2⟩ := c3
            obtain ⟨x, rfl, hce, hd⟩ := (HB.out.below HBr.out (Nat.le_refl _)).at (i := i2) (by have := HM.out; omega)
            generalize lb.getD i2 0 = b at hce hd
            have c1i : (i2 : Int) < (m : Int) := by omega
            have c2i : (i2 : Int) < 40 := by omega
            have c3i : (0 : Int) ≤ (i2 : Int) := by omega
            obtain ⟨d, hdd⟩ : ∃ d, d = 48 + b % 10 := ⟨_, rfl⟩
            obtain ⟨r, hr⟩ : ∃ r, r = b % 10 := ⟨_, rfl⟩
            have e1 : (b : Int) % 10 = (r : Int) := by omega
            have e2 : 48 + (r : Int) = (d : Int) := by omega
            have hr9 : r < 10 := by omega
            have hd5 : d < 58 := by omega
            have hcv := conv_one wr d
            have HT2 : Hid (∃ S, t ++ bs [UInt8.ofNat d] = bs S ∧ AllD S ∧ S.length = i2 + 1 + 1) := by
              obtain ⟨S, h1, h2, h3⟩ := HT.out
              refine ⟨S ++ [UInt8.ofNat d], ?_, allD_snoc h2 (by rw [hdd]; exact isD_ten b), by simp [h3]⟩
              rw [h1, bs_append]
            have hsz2 : (t ++ bs [UInt8.ofNat d]).size ≤ 41 := by
              obtain ⟨S, h1, h2, h3⟩ := HT2.out
              rw [h1, bs_size, h3]; omega
            have hs1 : (bs [UInt8.ofNat d]).size = 1 := by rw [bs_size]; rfl
            generalize bs [UInt8.ofNat d] = cs at *
            have HBn : Hid (Below w.heap.size w (wr.alloc (.cells #[.int .u8 (d : Int)] 5))) := HBr.out.alloc HBr.out.size _
            clear hdd hr HT
            go_wp2
            go_roundw
            case rel => exact ⟨i2 + 1, t ++ cs, by omega, by omega, by go_num, rfl, hsz2, HT2, HBn⟩
            case measure => simp [intOf]; omega
          · have hex2 : ¬ i2 < m ∨ (i2 < m ∧ ¬ i2 < 40) := by omega
            rcases hex2 with c4 | ⟨c4, c5⟩
            · have ci2 : ¬ (i2 : Int) < (m : Int) := by omega
              obtain ⟨S, hS1, hS2, hS3⟩ := HS.out
              obtain ⟨T, hT1, hT2, hT3⟩ := HT.out
              have HV : Hid (∀ (j : Nat) (R : List UInt8), (R = [] ∨ ∃ c r, R = c :: r ∧ isD c = false) → Txt.expo R = some 0 → R.length ≤ 2 → j ≤ 255 → parseW (S ++ 46 :: (T ++ List.replicate j 48 ++ R)) = (decN (dv (S ++ T) 0) (-(T.length : Int)), 0)) :=
                fun j R h1 h2 h3 h4 => parse_noughts j hS2 (fun e => by rw [e] at hS3; simp at hS3) hT2 (fun e => by rw [e] at hT3; simp at hT3) h1 h2 (by omega)
              have hNr := fun w => near_any (S ++ T) (-(T.length : Int)) w (allD_app hS2 hT2) (by rw [List.length_append]; omega) (by omega) (by omega)
              have HU0 : Hid (s ++ ⟨#[46]⟩ ++ t = bs (S ++ 46 :: (T ++ List.replicate 0 48 ++ []))) := by
                show _ = _
                rw [hS1, hT1, show (⟨#[46]⟩ : ByteArray) = bs [46] from rfl, bs_append, bs_append]; simp
              have HUj : Hid (∀ j, bs (S ++ 46 :: (T ++ List.replicate j 48 ++ [])) ++ ⟨#[48]⟩ = bs (S ++ 46 :: (T ++ List.replicate (j + 1) 48 ++ []))) := fun j => by
                rw [show (⟨#[48]⟩ : ByteArray) = bs [48] from rfl, bs_append, List.replicate_succ']; simp
              have HUe : Hid (∀ j, bs (S ++ 46 :: (T ++ List.replicate j 48 ++ [])) ++ ⟨#[101, 48]⟩ = bs (S ++ 46 :: (T ++ List.replicate j 48 ++ [101, 48]))) := fun j => by
                rw [show (⟨#[101, 48]⟩ : ByteArray) = bs [101, 48] from rfl, bs_append]; simp
              have HSz : Hid (∀ j, j ≤ 255 → (bs (S ++ 46 :: (T ++ List.replicate j 48 ++ []))).size ≤ 340) := fun j hj => by rw [bs_size]; simp; omega
              have hP : ∀ (j : Nat) (w : World), j ≤ 255 → Calls Tryd.prog 7 #[.string (bs (S ++ 46 :: (T ++ List.replicate j 48 ++ [])))] w fun e w' => e = .returned (.tuple #[.int .u64 (decN (dv (S ++ T) 0) (-(T.length : Int)) : Nat), .int .i64 (0 : Nat)]) ∧ Below w.heap.size w w' := fun j w hj => by
                have := parse_any (S ++ 46 :: (T ++ List.replicate j 48 ++ [])) w (by unfold maxLen; simp; omega)
                rw [HV.out j [] (Or.inl rfl) expo_nil (by decide) hj] at this
                exact this
              have hPe : ∀ (j : Nat) (w : World), j ≤ 255 → Calls Tryd.prog 7 #[.string (bs (S ++ 46 :: (T ++ List.replicate j 48 ++ [101, 48])))] w fun e w' => e = .returned (.tuple #[.int .u64 (decN (dv (S ++ T) 0) (-(T.length : Int)) : Nat), .int .i64 (0 : Nat)]) ∧ Below w.heap.size w w' := fun j w hj => by
                have := parse_any (S ++ 46 :: (T ++ List.replicate j 48 ++ [101, 48])) w (by unfold maxLen; simp; omega)
                rw [HV.out j [101, 48] (Or.inr ⟨101, [48], rfl, rfl⟩) expo_e0 (by decide) hj] at this
                exact this
              have hst : s ++ t = bs (S ++ T) := by rw [hS1, hT1, bs_append]
              have htl : t.size = T.length := by rw [hT1, bs_size]
              rw [← hst, ← htl] at hNr
              rw [← htl] at hP hPe
              have HP : Hid (∀ (j : Nat) (w : World), j ≤ 255 → Calls Tryd.prog 7 #[.string (bs (S ++ 46 :: (T ++ List.replicate j 48 ++ [])))] w fun e w' => e = .returned (.tuple #[.int .u64 (decN (dv (S ++ T) 0) (-(t.size : Int)) : Nat), .int .i64 (0 : Nat)]) ∧ Below w.heap.size w w') := hP
              have HPe : Hid (∀ (j : Nat) (w : World), j ≤ 255 → Calls Tryd.prog 7 #[.string (bs (S ++ 46 :: (T ++ List.replicate j 48 ++ [101, 48])))] w fun e w' => e = .returned (.tuple #[.int .u64 (decN (dv (S ++ T) 0) (-(t.size : Int)) : Nat), .int .i64 (0 : Nat)]) ∧ Below w.heap.size w w') := hPe
              have hU0 := HU0.out
              obtain ⟨F, hF⟩ : ∃ F : Nat → ByteArray, F = fun j => bs (S ++ 46 :: (T ++ List.replicate j 48 ++ [])) := ⟨_, rfl⟩
              obtain ⟨G, hG⟩ : ∃ G : Nat → ByteArray, G = fun j => bs (S ++ 46 :: (T ++ List.replicate j 48 ++ [101, 48])) := ⟨_, rfl⟩
              have HFj : Hid (∀ j, F j ++ ⟨#[48]⟩ = F (j + 1)) := by rw [hF]; exact HUj.out
              have HFe : Hid (∀ j, F j ++ ⟨#[101, 48]⟩ = G j) := by rw [hF, hG]; exact HUe.out
              have HFz : Hid (∀ j, j ≤ 255 → (F j).size ≤ 340) := by rw [hF]; exact HSz.out
              generalize decN (dv (S ++ T) 0) (-(t.size : Int)) = V at *
              have HPF : Hid (∀ (j : Nat) (w : World), j ≤ 255 → Calls Tryd.prog 7 #[.string (F j)] w fun e w' => e = .returned (.tuple #[.int .u64 (V : Nat), .int .i64 (0 : Nat)]) ∧ Below w.heap.size w w') := by rw [hF]; exact HP.out
              have HPG : Hid (∀ (j : Nat) (w : World), j ≤ 255 → Calls Tryd.prog 7 #[.string (G j)] w fun e w' => e = .returned (.tuple #[.int .u64 (V : Nat), .int .i64 (0 : Nat)]) ∧ Below w.heap.size w w') := by rw [hG]; exact HPe.out
              have hU1 : s ++ ⟨#[46]⟩ ++ t = F 0 := by rw [hF]; exact hU0
              have hz46 : (⟨#[46]⟩ : ByteArray).size = 1 := rfl
              have hz47 : (s ++ ⟨#[46]⟩).size ≤ 42 := by rw [hS1, show (⟨#[46]⟩ : ByteArray) = bs [46] from rfl, bs_append, bs_size, List.length_append]; simp; omega
              have HNr : Hid (∀ w, Calls Tryd.prog 13 #[.agg #[.string (s ++ t), .int .i64 (-(t.size : Int))]] w fun e w' => e = .returned (.int .u64 (V : Nat)) ∧ Below w.heap.size w w') := hNr
              generalize hsd : s ++ ⟨#[46]⟩ = sd at *
              generalize hss2 : s ++ t = sst at *
              clear HV hNr HU0 HUj HUe HSz hP hPe HP HPe hU0 hF hG hS1 hT1 hS2 hS3 hT2 hT3 hst htl
              have hB0 := HBr.out
              have z0 := hB0.size
              go_wp2_with fail
              refine (HPF.out 0 _ (by omega)).mono ?_
              rintro e w1 ⟨rfl, hb1⟩
              have hB1 := hB0.trans (hb1.mono z0)
              have z1 := hB1.size
              have HB1 : Hid (Below w.heap.size w w1) := hB1
              clear hb1 hB1 hB0
              go_wp2_with fail
              go_loop [13, 14] (fun t13 t14 => ∃ j : Nat, j ≤ k ∧ t14 = .int .i64 j ∧ t13 = .string (F j)) (fun _ t14 => k - (intOf t14).toNat)
              case atStart => exact ⟨0, Nat.zero_le _, rfl, rfl⟩
              case round =>
                obtain ⟨j, hj, rfl, rfl⟩ := hrel
                have hzj := HFz.out j (by omega)
                by_cases c5 : j < k
                · have c5i : (j : Int) < (k : Int) := by omega
                  have hFj := HFj.out j
                  have hz48 : (⟨#[48]⟩ : ByteArray).size = 1 := rfl
                  go_wp2
                  go_round
                  case rel => exact ⟨j + 1, by omega, by go_num, rfl⟩
                  case measure => simp [intOf]; omega
                · have e : j = k := by omega
                  subst e
                  have hFe := HFe.out j
                  have hz48 : (⟨#[101, 48]⟩ : ByteArray).size = 2 := rfl
                  go_wp2_with fail
                  refine (HPF.out j _ (by omega)).mono ?_
                  rintro e w2 ⟨rfl, hb2⟩
                  have hB2 := HB1.out.trans (hb2.mono z1)
                  have z2 := hB2.size
                  clear hb2
                  go_wp2_with fail
                  refine (HPG.out j _ (by omega)).mono ?_
                  rintro e w3 ⟨rfl, hb3⟩
                  have hB3 := hB2.trans (hb3.mono z2)
                  have z3 := hB3.size
                  clear hb3 hB2
                  go_wp2_with fail
                  refine (HNr.out _).mono ?_
                  rintro e w4 ⟨rfl, hb4⟩
                  have hB4 := hB3.trans (hb4.mono z3)
                  have z4 := hB4.size
                  clear hb4 hB3
                  go_wp2_with fail
                  refine (decLives_any w4).mono ?_
                  rintro e w5 ⟨rfl, hb5⟩
                  have HB5 : Hid (Below w.heap.size w w5) := hB4.trans (hb5.mono z4)
                  clear hb5 hB4
                  go_wp2
                  go_ret
                  exact ⟨rfl, HB5.out⟩
            · have ci2 : (i2 : Int) < (m : Int) := by omega
              have ci3 : ¬ (i2 : Int) < 40 := by omega
              obtain ⟨S, hS1, hS2, hS3⟩ := HS.out
              obtain ⟨T, hT1, hT2, hT3⟩ := HT.out
              have HV : Hid (∀ (j : Nat) (R : List UInt8), (R = [] ∨ ∃ c r, R = c :: r ∧ isD c = false) → Txt.expo R = some 0 → R.length ≤ 2 → j ≤ 255 → parseW (S ++ 46 :: (T ++ List.replicate j 48 ++ R)) = (decN (dv (S ++ T) 0) (-(T.length : Int)), 0)) :=
                fun j R h1 h2 h3 h4 => parse_noughts j hS2 (fun e => by rw [e] at hS3; simp at hS3) hT2 (fun e => by rw [e] at hT3; simp at hT3) h1 h2 (by omega)
              have hNr := fun w => near_any (S ++ T) (-(T.length : Int)) w (allD_app hS2 hT2) (by rw [List.length_append]; omega) (by omega) (by omega)
              have HU0 : Hid (s ++ ⟨#[46]⟩ ++ t = bs (S ++ 46 :: (T ++ List.replicate 0 48 ++ []))) := by
                show _ = _
                rw [hS1, hT1, show (⟨#[46]⟩ : ByteArray) = bs [46] from rfl, bs_append, bs_append]; simp
              have HUj : Hid (∀ j, bs (S ++ 46 :: (T ++ List.replicate j 48 ++ [])) ++ ⟨#[48]⟩ = bs (S ++ 46 :: (T ++ List.replicate (j + 1) 48 ++ []))) := fun j => by
                rw [show (⟨#[48]⟩ : ByteArray) = bs [48] from rfl, bs_append, List.replicate_succ']; simp
              have HUe : Hid (∀ j, bs (S ++ 46 :: (T ++ List.replicate j 48 ++ [])) ++ ⟨#[101, 48]⟩ = bs (S ++ 46 :: (T ++ List.replicate j 48 ++ [101, 48]))) := fun j => by
                rw [show (⟨#[101, 48]⟩ : ByteArray) = bs [101, 48] from rfl, bs_append]; simp
              have HSz : Hid (∀ j, j ≤ 255 → (bs (S ++ 46 :: (T ++ List.replicate j 48 ++ []))).size ≤ 340) := fun j hj => by rw [bs_size]; simp; omega
              have hP : ∀ (j : Nat) (w : World), j ≤ 255 → Calls Tryd.prog 7 #[.string (bs (S ++ 46 :: (T ++ List.replicate j 48 ++ [])))] w fun e w' => e = .returned (.tuple #[.int .u64 (decN (dv (S ++ T) 0) (-(T.length : Int)) : Nat), .int .i64 (0 : Nat)]) ∧ Below w.heap.size w w' := fun j w hj => by
                have := parse_any (S ++ 46 :: (T ++ List.replicate j 48 ++ [])) w (by unfold maxLen; simp; omega)
                rw [HV.out j [] (Or.inl rfl) expo_nil (by decide) hj] at this
                exact this
              have hPe : ∀ (j : Nat) (w : World), j ≤ 255 → Calls Tryd.prog 7 #[.string (bs (S ++ 46 :: (T ++ List.replicate j 48 ++ [101, 48])))] w fun e w' => e = .returned (.tuple #[.int .u64 (decN (dv (S ++ T) 0) (-(T.length : Int)) : Nat), .int .i64 (0 : Nat)]) ∧ Below w.heap.size w w' := fun j w hj => by
                have := parse_any (S ++ 46 :: (T ++ List.replicate j 48 ++ [101, 48])) w (by unfold maxLen; simp; omega)
                rw [HV.out j [101, 48] (Or.inr ⟨101, [48], rfl, rfl⟩) expo_e0 (by decide) hj] at this
                exact this
              have hst : s ++ t = bs (S ++ T) := by rw [hS1, hT1, bs_append]
              have htl : t.size = T.length := by rw [hT1, bs_size]
              rw [← hst, ← htl] at hNr
              rw [← htl] at hP hPe
              have HP : Hid (∀ (j : Nat) (w : World), j ≤ 255 → Calls Tryd.prog 7 #[.string (bs (S ++ 46 :: (T ++ List.replicate j 48 ++ [])))] w fun e w' => e = .returned (.tuple #[.int .u64 (decN (dv (S ++ T) 0) (-(t.size : Int)) : Nat), .int .i64 (0 : Nat)]) ∧ Below w.heap.size w w') := hP
              have HPe : Hid (∀ (j : Nat) (w : World), j ≤ 255 → Calls Tryd.prog 7 #[.string (bs (S ++ 46 :: (T ++ List.replicate j 48 ++ [101, 48])))] w fun e w' => e = .returned (.tuple #[.int .u64 (decN (dv (S ++ T) 0) (-(t.size : Int)) : Nat), .int .i64 (0 : Nat)]) ∧ Below w.heap.size w w') := hPe
              have hU0 := HU0.out
              obtain ⟨F, hF⟩ : ∃ F : Nat → ByteArray, F = fun j => bs (S ++ 46 :: (T ++ List.replicate j 48 ++ [])) := ⟨_, rfl⟩
              obtain ⟨G, hG⟩ : ∃ G : Nat → ByteArray, G = fun j => bs (S ++ 46 :: (T ++ List.replicate j 48 ++ [101, 48])) := ⟨_, rfl⟩
              have HFj : Hid (∀ j, F j ++ ⟨#[48]⟩ = F (j + 1)) := by rw [hF]; exact HUj.out
              have HFe : Hid (∀ j, F j ++ ⟨#[101, 48]⟩ = G j) := by rw [hF, hG]; exact HUe.out
              have HFz : Hid (∀ j, j ≤ 255 → (F j).size ≤ 340) := by rw [hF]; exact HSz.out
              generalize decN (dv (S ++ T) 0) (-(t.size : Int)) = V at *
              have HPF : Hid (∀ (j : Nat) (w : World), j ≤ 255 → Calls Tryd.prog 7 #[.string (F j)] w fun e w' => e = .returned (.tuple #[.int .u64 (V : Nat), .int .i64 (0 : Nat)]) ∧ Below w.heap.size w w') := by rw [hF]; exact HP.out
              have HPG : Hid (∀ (j : Nat) (w : World), j ≤ 255 → Calls Tryd.prog 7 #[.string (G j)] w fun e w' => e = .returned (.tuple #[.int .u64 (V : Nat), .int .i64 (0 : Nat)]) ∧ Below w.heap.size w w') := by rw [hG]; exact HPe.out
              have hU1 : s ++ ⟨#[46]⟩ ++ t = F 0 := by rw [hF]; exact hU0
              have hz46 : (⟨#[46]⟩ : ByteArray).size = 1 := rfl
              have hz47 : (s ++ ⟨#[46]⟩).size ≤ 42 := by rw [hS1, show (⟨#[46]⟩ : ByteArray) = bs [46] from rfl, bs_append, bs_size, List.length_append]; simp; omega
              have HNr : Hid (∀ w, Calls Tryd.prog 13 #[.agg #[.string (s ++ t), .int .i64 (-(t.size : Int))]] w fun e w' => e = .returned (.int .u64 (V : Nat)) ∧ Below w.heap.size w w') := hNr
              generalize hsd : s ++ ⟨#[46]⟩ = sd at *
              generalize hss2 : s ++ t = sst at *
              clear HV hNr HU0 HUj HUe HSz hP hPe HP HPe hU0 hF hG hS1 hT1 hS2 hS3 hT2 hT3 hst htl
              have hB0 := HBr.out
              have z0 := hB0.size
              go_wp2_with fail
              refine (HPF.out 0 _ (by omega)).mono ?_
              rintro e w1 ⟨rfl, hb1⟩
              have hB1 := hB0.trans (hb1.mono z0)
              have z1 := hB1.size
              have HB1 : Hid (Below w.heap.size w w1) := hB1
              clear hb1 hB1 hB0
              go_wp2_with fail
              go_loop [13, 14] (fun t13 t14 => ∃ j : Nat, j ≤ k ∧ t14 = .int .i64 j ∧ t13 = .string (F j)) (fun _ t14 => k - (intOf t14).toNat)
              case atStart => exact ⟨0, Nat.zero_le _, rfl, rfl⟩
              case round =>
                obtain ⟨j, hj, rfl, rfl⟩ := hrel
                have hzj := HFz.out j (by omega)
                by_cases c5 : j < k
                · have c5i : (j : Int) < (k : Int) := by omega
                  have hFj := HFj.out j
                  have hz48 : (⟨#[48]⟩ : ByteArray).size = 1 := rfl
                  go_wp2
                  go_round
                  case rel => exact ⟨j + 1, by omega, by go_num, rfl⟩
                  case measure => simp [intOf]; omega
                · have e : j = k := by omega
                  subst e
                  have hFe := HFe.out j
                  have hz48 : (⟨#[101, 48]⟩ : ByteArray).size = 2 := rfl
                  go_wp2_with fail
                  refine (HPF.out j _ (by omega)).mono ?_
                  rintro e w2 ⟨rfl, hb2⟩
                  have hB2 := HB1.out.trans (hb2.mono z1)
                  have z2 := hB2.size
                  clear hb2
                  go_wp2_with fail
                  refine (HPG.out j _ (by omega)).mono ?_
                  rintro e w3 ⟨rfl, hb3⟩
                  have hB3 := hB2.trans (hb3.mono z2)
                  have z3 := hB3.size
                  clear hb3 hB2
                  go_wp2_with fail
                  refine (HNr.out _).mono ?_
                  rintro e w4 ⟨rfl, hb4⟩
                  have hB4 := hB3.trans (hb4.mono z3)
                  have z4 := hB4.size
                  clear hb4 hB3
                  go_wp2_with fail
                  refine (decLives_any w4).mono ?_
                  rintro e w5 ⟨rfl, hb5⟩
                  have HB5 : Hid (Below w.heap.size w w5) := hB4.trans (hb5.mono z4)
                  clear hb5 hB4
                  go_wp2
                  go_ret
                  exact ⟨rfl, HB5.out⟩
      · have ci : (i : Int) < (n : Int) := by omega
        have ci1 : ¬ (i : Int) < 40 := by omega
        obtain ⟨wa, rfl⟩ : ∃ wa, wa = wr := ⟨_, rfl⟩
        go_wp2_with fail
        go_loopw [8, 10] (fun t8 t10 wr => ∃ (i : Nat) (s : ByteArray), i ≤ m ∧ i ≤ 40 ∧ t10 = .int .i64 i ∧ t8 = .string s ∧ s.size ≤ 41 ∧ Hid (∃ S, s = bs S ∧ AllD S ∧ S.length = i + 1) ∧ Hid (Below w.heap.size w wr)) (fun _ t10 _ => 40 - (intOf t10).toNat)
        case atStart => exact ⟨0, ⟨#[53]⟩, Nat.zero_le _, by omega, rfl, rfl, by decide, ⟨[53], H5.out.1, H5.out.2, rfl⟩, HBr.out⟩
        case round =>
          obtain ⟨i2, t, hin2, hi42, rfl, rfl, htt, HT, HBr⟩ := hrel
          by_cases c3 : i2 < m ∧ i2 < 40
          · obtain ⟨c1, c2⟩ := c3
            obtain ⟨x, rfl, hce, hd⟩ := (HB.out.below HBr.out (Nat.le_refl _)).at (i := i2) (by have := HM.out; omega)
            generalize lb.getD i2 0 = b at hce hd
            have c1i : (i2 : Int) < (m : Int) := by omega
            have c2i : (i2 : Int) < 40 := by omega
            have c3i : (0 : Int) ≤ (i2 : Int) := by omega
            obtain ⟨d, hdd⟩ : ∃ d, d = 48 + b % 10 := ⟨_, rfl⟩
            obtain ⟨r, hr⟩ : ∃ r, r = b % 10 := ⟨_, rfl⟩
            have e1 : (b : Int) % 10 = (r : Int) := by omega
            have e2 : 48 + (r : Int) = (d : Int) := by omega
            have hr9 : r < 10 := by omega
            have hd5 : d < 58 := by omega
            have hcv := conv_one wr d
            have HT2 : Hid (∃ S, t ++ bs [UInt8.ofNat d] = bs S ∧ AllD S ∧ S.length = i2 + 1 + 1) := by
              obtain ⟨S, h1, h2, h3⟩ := HT.out
              refine ⟨S ++ [UInt8.ofNat d], ?_, allD_snoc h2 (by rw [hdd]; exact isD_ten b), by simp [h3]⟩
              rw [h1, bs_append]
            have hsz2 : (t ++ bs [UInt8.ofNat d]).size ≤ 41 := by
              obtain ⟨S, h1, h2, h3⟩ := HT2.out
              rw [h1, bs_size, h3]; omega
            have hs1 : (bs [UInt8.ofNat d]).size = 1 := by rw [bs_size]; rfl
            generalize bs [UInt8.ofNat d] = cs at *
            have HBn : Hid (Below w.heap.size w (wr.alloc (.cells #[.int .u8 (d : Int)] 5))) := HBr.out.alloc HBr.out.size _
            clear hdd hr HT
            go_wp2
            go_roundw
            case rel => exact ⟨i2 + 1, t ++ cs, by omega, by omega, by go_num, rfl, hsz2, HT2, HBn⟩
            case measure => simp [intOf]; omega
          · have hex2 : ¬ i2 < m ∨ (i2 < m ∧ ¬ i2 < 40) := by omega
            rcases hex2 with c4 | ⟨c4, c5⟩
            · have ci2 : ¬ (i2 : Int) < (m : Int) := by omega
              obtain ⟨S, hS1, hS2, hS3⟩ := HS.out
              obtain ⟨T, hT1, hT2, hT3⟩ := HT.out
              have HV : Hid (∀ (j : Nat) (R : List UInt8), (R = [] ∨ ∃ c r, R = c :: r ∧ isD c = false) → Txt.expo R = some 0 → R.length ≤ 2 → j ≤ 255 → parseW (S ++ 46 :: (T ++ List.replicate j 48 ++ R)) = (decN (dv (S ++ T) 0) (-(T.length : Int)), 0)) :=
                fun j R h1 h2 h3 h4 => parse_noughts j hS2 (fun e => by rw [e] at hS3; simp at hS3) hT2 (fun e => by rw [e] at hT3; simp at hT3) h1 h2 (by omega)
              have hNr := fun w => near_any (S ++ T) (-(T.length : Int)) w (allD_app hS2 hT2) (by rw [List.length_append]; omega) (by omega) (by omega)
              have HU0 : Hid (s ++ ⟨#[46]⟩ ++ t = bs (S ++ 46 :: (T ++ List.replicate 0 48 ++ []))) := by
                show _ = _
                rw [hS1, hT1, show (⟨#[46]⟩ : ByteArray) = bs [46] from rfl, bs_append, bs_append]; simp
              have HUj : Hid (∀ j, bs (S ++ 46 :: (T ++ List.replicate j 48 ++ [])) ++ ⟨#[48]⟩ = bs (S ++ 46 :: (T ++ List.replicate (j + 1) 48 ++ []))) := fun j => by
                rw [show (⟨#[48]⟩ : ByteArray) = bs [48] from rfl, bs_append, List.replicate_succ']; simp
              have HUe : Hid (∀ j, bs (S ++ 46 :: (T ++ List.replicate j 48 ++ [])) ++ ⟨#[101, 48]⟩ = bs (S ++ 46 :: (T ++ List.replicate j 48 ++ [101, 48]))) := fun j => by
                rw [show (⟨#[101, 48]⟩ : ByteArray) = bs [101, 48] from rfl, bs_append]; simp
              have HSz : Hid (∀ j, j ≤ 255 → (bs (S ++ 46 :: (T ++ List.replicate j 48 ++ []))).size ≤ 340) := fun j hj => by rw [bs_size]; simp; omega
              have hP : ∀ (j : Nat) (w : World), j ≤ 255 → Calls Tryd.prog 7 #[.string (bs (S ++ 46 :: (T ++ List.replicate j 48 ++ [])))] w fun e w' => e = .returned (.tuple #[.int .u64 (decN (dv (S ++ T) 0) (-(T.length : Int)) : Nat), .int .i64 (0 : Nat)]) ∧ Below w.heap.size w w' := fun j w hj => by
                have := parse_any (S ++ 46 :: (T ++ List.replicate j 48 ++ [])) w (by unfold maxLen; simp; omega)
                rw [HV.out j [] (Or.inl rfl) expo_nil (by decide) hj] at this
                exact this
              have hPe : ∀ (j : Nat) (w : World), j ≤ 255 → Calls Tryd.prog 7 #[.string (bs (S ++ 46 :: (T ++ List.replicate j 48 ++ [101, 48])))] w fun e w' => e = .returned (.tuple #[.int .u64 (decN (dv (S ++ T) 0) (-(T.length : Int)) : Nat), .int .i64 (0 : Nat)]) ∧ Below w.heap.size w w' := fun j w hj => by
                have := parse_any (S ++ 46 :: (T ++ List.replicate j 48 ++ [101, 48])) w (by unfold maxLen; simp; omega)
                rw [HV.out j [101, 48] (Or.inr ⟨101, [48], rfl, rfl⟩) expo_e0 (by decide) hj] at this
                exact this
              have hst : s ++ t = bs (S ++ T) := by rw [hS1, hT1, bs_append]
              have htl : t.size = T.length := by rw [hT1, bs_size]
              rw [← hst, ← htl] at hNr
              rw [← htl] at hP hPe
              have HP : Hid (∀ (j : Nat) (w : World), j ≤ 255 → Calls Tryd.prog 7 #[.string (bs (S ++ 46 :: (T ++ List.replicate j 48 ++ [])))] w fun e w' => e = .returned (.tuple #[.int .u64 (decN (dv (S ++ T) 0) (-(t.size : Int)) : Nat), .int .i64 (0 : Nat)]) ∧ Below w.heap.size w w') := hP
              have HPe : Hid (∀ (j : Nat) (w : World), j ≤ 255 → Calls Tryd.prog 7 #[.string (bs (S ++ 46 :: (T ++ List.replicate j 48 ++ [101, 48])))] w fun e w' => e = .returned (.tuple #[.int .u64 (decN (dv (S ++ T) 0) (-(t.size : Int)) : Nat), .int .i64 (0 : Nat)]) ∧ Below w.heap.size w w') := hPe
              have hU0 := HU0.out
              obtain ⟨F, hF⟩ : ∃ F : Nat → ByteArray, F = fun j => bs (S ++ 46 :: (T ++ List.replicate j 48 ++ [])) := ⟨_, rfl⟩
              obtain ⟨G, hG⟩ : ∃ G : Nat → ByteArray, G = fun j => bs (S ++ 46 :: (T ++ List.replicate j 48 ++ [101, 48])) := ⟨_, rfl⟩
              have HFj : Hid (∀ j, F j ++ ⟨#[48]⟩ = F (j + 1)) := by rw [hF]; exact HUj.out
              have HFe : Hid (∀ j, F j ++ ⟨#[101, 48]⟩ = G j) := by rw [hF, hG]; exact HUe.out
              have HFz : Hid (∀ j, j ≤ 255 → (F j).size ≤ 340) := by rw [hF]; exact HSz.out
              generalize decN (dv (S ++ T) 0) (-(t.size : Int)) = V at *
              have HPF : Hid (∀ (j : Nat) (w : World), j ≤ 255 → Calls Tryd.prog 7 #[.string (F j)] w fun e w' => e = .returned (.tuple #[.int .u64 (V : Nat), .int .i64 (0 : Nat)]) ∧ Below w.heap.size w w') := by rw [hF]; exact HP.out
              have HPG : Hid (∀ (j : Nat) (w : World), j ≤ 255 → Calls Tryd.prog 7 #[.string (G j)] w fun e w' => e = .returned (.tuple #[.int .u64 (V : Nat), .int .i64 (0 : Nat)]) ∧ Below w.heap.size w w') := by rw [hG]; exact HPe.out
              have hU1 : s ++ ⟨#[46]⟩ ++ t = F 0 := by rw [hF]; exact hU0
              have hz46 : (⟨#[46]⟩ : ByteArray).size = 1 := rfl
              have hz47 : (s ++ ⟨#[46]⟩).size ≤ 42 := by rw [hS1, show (⟨#[46]⟩ : ByteArray) = bs [46] from rfl, bs_append, bs_size, List.length_append]; simp; omega
              have HNr : Hid (∀ w, Calls Tryd.prog 13 #[.agg #[.string (s ++ t), .int .i64 (-(t.size : Int))]] w fun e w' => e = .returned (.int .u64 (V : Nat)) ∧ Below w.heap.size w w') := hNr
              generalize hsd : s ++ ⟨#[46]⟩ = sd at *
              generalize hss2 : s ++ t = sst at *
              clear HV hNr HU0 HUj HUe HSz hP hPe HP HPe hU0 hF hG hS1 hT1 hS2 hS3 hT2 hT3 hst htl
              have hB0 := HBr.out
              have z0 := hB0.size
              go_wp2_with fail
              refine (HPF.out 0 _ (by omega)).mono ?_
              rintro e w1 ⟨rfl, hb1⟩
              have hB1 := hB0.trans (hb1.mono z0)
              have z1 := hB1.size
              have HB1 : Hid (Below w.heap.size w w1) := hB1
              clear hb1 hB1 hB0
              go_wp2_with fail
              go_loop [13, 14] (fun t13 t14 => ∃ j : Nat, j ≤ k ∧ t14 = .int .i64 j ∧ t13 = .string (F j)) (fun _ t14 => k - (intOf t14).toNat)
              case atStart => exact ⟨0, Nat.zero_le _, rfl, rfl⟩
              case round =>
                obtain ⟨j, hj, rfl, rfl⟩ := hrel
                have hzj := HFz.out j (by omega)
                by_cases c5 : j < k
                · have c5i : (j : Int) < (k : Int) := by omega
                  have hFj := HFj.out j
                  have hz48 : (⟨#[48]⟩ : ByteArray).size = 1 := rfl
                  go_wp2
                  go_round
                  case rel => exact ⟨j + 1, by omega, by go_num, rfl⟩
                  case measure => simp [intOf]; omega
                · have e : j = k := by omega
                  subst e
                  have hFe := HFe.out j
                  have hz48 : (⟨#[101, 48]⟩ : ByteArray).size = 2 := rfl
                  go_wp2_with fail
                  refine (HPF.out j _ (by omega)).mono ?_
                  rintro e w2 ⟨rfl, hb2⟩
                  have hB2 := HB1.out.trans (hb2.mono z1)
                  have z2 := hB2.size
                  clear hb2
                  go_wp2_with fail
                  refine (HPG.out j _ (by omega)).mono ?_
                  rintro e w3 ⟨rfl, hb3⟩
                  have hB3 := hB2.trans (hb3.mono z2)
                  have z3 := hB3.size
                  clear hb3 hB2
                  go_wp2_with fail
                  refine (HNr.out _).mono ?_
                  rintro e w4 ⟨rfl, hb4⟩
                  have hB4 := hB3.trans (hb4.mono z3)
                  have z4 := hB4.size
                  clear hb4 hB3
                  go_wp2_with fail
                  refine (decLives_any w4).mono ?_
                  rintro e w5 ⟨rfl, hb5⟩
                  have HB5 : Hid (Below w.heap.size w w5) := hB4.trans (hb5.mono z4)
                  clear hb5 hB4
                  go_wp2
                  go_ret
                  exact ⟨rfl, HB5.out⟩
            · have ci2 : (i2 : Int) < (m : Int) := by omega
              have ci3 : ¬ (i2 : Int) < 40 := by omega
              obtain ⟨S, hS1, hS2, hS3⟩ := HS.out
              obtain ⟨T, hT1, hT2, hT3⟩ := HT.out
              have HV : Hid (∀ (j : Nat) (R : List UInt8), (R = [] ∨ ∃ c r, R = c :: r ∧ isD c = false) → Txt.expo R = some 0 → R.length ≤ 2 → j ≤ 255 → parseW (S ++ 46 :: (T ++ List.replicate j 48 ++ R)) = (decN (dv (S ++ T) 0) (-(T.length : Int)), 0)) :=
                fun j R h1 h2 h3 h4 => parse_noughts j hS2 (fun e => by rw [e] at hS3; simp at hS3) hT2 (fun e => by rw [e] at hT3; simp at hT3) h1 h2 (by omega)
              have hNr := fun w => near_any (S ++ T) (-(T.length : Int)) w (allD_app hS2 hT2) (by rw [List.length_append]; omega) (by omega) (by omega)
              have HU0 : Hid (s ++ ⟨#[46]⟩ ++ t = bs (S ++ 46 :: (T ++ List.replicate 0 48 ++ []))) := by
                show _ = _
                rw [hS1, hT1, show (⟨#[46]⟩ : ByteArray) = bs [46] from rfl, bs_append, bs_append]; simp
              have HUj : Hid (∀ j, bs (S ++ 46 :: (T ++ List.replicate j 48 ++ [])) ++ ⟨#[48]⟩ = bs (S ++ 46 :: (T ++ List.replicate (j + 1) 48 ++ []))) := fun j => by
                rw [show (⟨#[48]⟩ : ByteArray) = bs [48] from rfl, bs_append, List.replicate_succ']; simp
              have HUe : Hid (∀ j, bs (S ++ 46 :: (T ++ List.replicate j 48 ++ [])) ++ ⟨#[101, 48]⟩ = bs (S ++ 46 :: (T ++ List.replicate j 48 ++ [101, 48]))) := fun j => by
                rw [show (⟨#[101, 48]⟩ : ByteArray) = bs [101, 48] from rfl, bs_append]; simp
              have HSz : Hid (∀ j, j ≤ 255 → (bs (S ++ 46 :: (T ++ List.replicate j 48 ++ []))).size ≤ 340) := fun j hj => by rw [bs_size]; simp; omega
              have hP : ∀ (j : Nat) (w : World), j ≤ 255 → Calls Tryd.prog 7 #[.string (bs (S ++ 46 :: (T ++ List.replicate j 48 ++ [])))] w fun e w' => e = .returned (.tuple #[.int .u64 (decN (dv (S ++ T) 0) (-(T.length : Int)) : Nat), .int .i64 (0 : Nat)]) ∧ Below w.heap.size w w' := fun j w hj => by
                have := parse_any (S ++ 46 :: (T ++ List.replicate j 48 ++ [])) w (by unfold maxLen; simp; omega)
                rw [HV.out j [] (Or.inl rfl) expo_nil (by decide) hj] at this
                exact this
              have hPe : ∀ (j : Nat) (w : World), j ≤ 255 → Calls Tryd.prog 7 #[.string (bs (S ++ 46 :: (T ++ List.replicate j 48 ++ [101, 48])))] w fun e w' => e = .returned (.tuple #[.int .u64 (decN (dv (S ++ T) 0) (-(T.length : Int)) : Nat), .int .i64 (0 : Nat)]) ∧ Below w.heap.size w w' := fun j w hj => by
                have := parse_any (S ++ 46 :: (T ++ List.replicate j 48 ++ [101, 48])) w (by unfold maxLen; simp; omega)
                rw [HV.out j [101, 48] (Or.inr ⟨101, [48], rfl, rfl⟩) expo_e0 (by decide) hj] at this
                exact this
              have hst : s ++ t = bs (S ++ T) := by rw [hS1, hT1, bs_append]
              have htl : t.size = T.length := by rw [hT1, bs_size]
              rw [← hst, ← htl] at hNr
              rw [← htl] at hP hPe
              have HP : Hid (∀ (j : Nat) (w : World), j ≤ 255 → Calls Tryd.prog 7 #[.string (bs (S ++ 46 :: (T ++ List.replicate j 48 ++ [])))] w fun e w' => e = .returned (.tuple #[.int .u64 (decN (dv (S ++ T) 0) (-(t.size : Int)) : Nat), .int .i64 (0 : Nat)]) ∧ Below w.heap.size w w') := hP
              have HPe : Hid (∀ (j : Nat) (w : World), j ≤ 255 → Calls Tryd.prog 7 #[.string (bs (S ++ 46 :: (T ++ List.replicate j 48 ++ [101, 48])))] w fun e w' => e = .returned (.tuple #[.int .u64 (decN (dv (S ++ T) 0) (-(t.size : Int)) : Nat), .int .i64 (0 : Nat)]) ∧ Below w.heap.size w w') := hPe
              have hU0 := HU0.out
              obtain ⟨F, hF⟩ : ∃ F : Nat → ByteArray, F = fun j => bs (S ++ 46 :: (T ++ List.replicate j 48 ++ [])) := ⟨_, rfl⟩
              obtain ⟨G, hG⟩ : ∃ G : Nat → ByteArray, G = fun j => bs (S ++ 46 :: (T ++ List.replicate j 48 ++ [101, 48])) := ⟨_, rfl⟩
              have HFj : Hid (∀ j, F j ++ ⟨#[48]⟩ = F (j + 1)) := by rw [hF]; exact HUj.out
              have HFe : Hid (∀ j, F j ++ ⟨#[101, 48]⟩ = G j) := by rw [hF, hG]; exact HUe.out
              have HFz : Hid (∀ j, j ≤ 255 → (F j).size ≤ 340) := by rw [hF]; exact HSz.out
              generalize decN (dv (S ++ T) 0) (-(t.size : Int)) = V at *
              have HPF : Hid (∀ (j : Nat) (w : World), j ≤ 255 → Calls Tryd.prog 7 #[.string (F j)] w fun e w' => e = .returned (.tuple #[.int .u64 (V : Nat), .int .i64 (0 : Nat)]) ∧ Below w.heap.size w w') := by rw [hF]; exact HP.out
              have HPG : Hid (∀ (j : Nat) (w : World), j ≤ 255 → Calls Tryd.prog 7 #[.string (G j)] w fun e w' => e = .returned (.tuple #[.int .u64 (V : Nat), .int .i64 (0 : Nat)]) ∧ Below w.heap.size w w') := by rw [hG]; exact HPe.out
              have hU1 : s ++ ⟨#[46]⟩ ++ t = F 0 := by rw [hF]; exact hU0
              have hz46 : (⟨#[46]⟩ : ByteArray).size = 1 := rfl
              have hz47 : (s ++ ⟨#[46]⟩).size ≤ 42 := by rw [hS1, show (⟨#[46]⟩ : ByteArray) = bs [46] from rfl, bs_append, bs_size, List.length_append]; simp; omega
              have HNr : Hid (∀ w, Calls Tryd.prog 13 #[.agg #[.string (s ++ t), .int .i64 (-(t.size : Int))]] w fun e w' => e = .returned (.int .u64 (V : Nat)) ∧ Below w.heap.size w w') := hNr
              generalize hsd : s ++ ⟨#[46]⟩ = sd at *
              generalize hss2 : s ++ t = sst at *
              clear HV hNr HU0 HUj HUe HSz hP hPe HP HPe hU0 hF hG hS1 hT1 hS2 hS3 hT2 hT3 hst htl
              have hB0 := HBr.out
              have z0 := hB0.size
              go_wp2_with fail
              refine (HPF.out 0 _ (by omega)).mono ?_
              rintro e w1 ⟨rfl, hb1⟩
              have hB1 := hB0.trans (hb1.mono z0)
              have z1 := hB1.size
              have HB1 : Hid (Below w.heap.size w w1) := hB1
              clear hb1 hB1 hB0
              go_wp2_with fail
              go_loop [13, 14] (fun t13 t14 => ∃ j : Nat, j ≤ k ∧ t14 = .int .i64 j ∧ t13 = .string (F j)) (fun _ t14 => k - (intOf t14).toNat)
              case atStart => exact ⟨0, Nat.zero_le _, rfl, rfl⟩
              case round =>
                obtain ⟨j, hj, rfl, rfl⟩ := hrel
                have hzj := HFz.out j (by omega)
                by_cases c5 : j < k
                · have c5i : (j : Int) < (k : Int) := by omega
                  have hFj := HFj.out j
                  have hz48 : (⟨#[48]⟩ : ByteArray).size = 1 := rfl
                  go_wp2
                  go_round
                  case rel => exact ⟨j + 1, by omega, by go_num, rfl⟩
                  case measure => simp [intOf]; omega
                · have e : j = k := by omega
                  subst e
                  have hFe := HFe.out j
                  have hz48 : (⟨#[101, 48]⟩ : ByteArray).size = 2 := rfl
                  go_wp2_with fail
                  refine (HPF.out j _ (by omega)).mono ?_
                  rintro e w2 ⟨rfl, hb2⟩
                  have hB2 := HB1.out.trans (hb2.mono z1)
                  have z2 := hB2.size
                  clear hb2
                  go_wp2_with fail
                  refine (HPG.out j _ (by omega)).mono ?_
                  rintro e w3 ⟨rfl, hb3⟩
                  have hB3 := hB2.trans (hb3.mono z2)
                  have z3 := hB3.size
                  clear hb3 hB2
                  go_wp2_with fail
                  refine (HNr.out _).mono ?_
                  rintro e w4 ⟨rfl, hb4⟩
                  have hB4 := hB3.trans (hb4.mono z3)
                  have z4 := hB4.size
                  clear hb4 hB3
                  go_wp2_with fail
                  refine (decLives_any w4).mono ?_
                  rintro e w5 ⟨rfl, hb5⟩
                  have HB5 : Hid (Below w.heap.size w w5) := hB4.trans (hb5.mono z4)
                  clear hb5 hB4
                  go_wp2
                  go_ret
                  exact ⟨rfl, HB5.out⟩

end Go.Proofs.YtngpdpmhjhgafaaDoor

/-
  Bytes and small numbers that came in.
-/
namespace Go.Proofs.YtngpdpmhjhgafaaDoor
set_option maxRecDepth 100000
open Go.ChangeShapes Go.WideShapes Go.ChangeAt Go.RowKit Txt

theorem open_rb {H : Type} {enc : TypeId × Value → H} {W : World} {base : Nat} {v : Value} {d : DataW H} {p : List MemPlace}
    (hval : Value.okWide Tryd.prog W .any base 36 v) (h0 : DataW.Trod enc Tryd.prog W 0 (fun _ => true) true 36 v d p) : ∃ l, RB W v l := by
  obtain ⟨a, len, cap, rfl⟩ := okWide_slice Tryd.underlying36 hval
  obtain ⟨fuel, hf⟩ := h0
  rcases open_ints Tryd.underlying36 Tryd.underlying5 (by kernel_rfl) hf with ⟨hcs, hx⟩ | ⟨x, n, c, zs, hcs, _, hl, hm, hz, hx, hcell, hwz⟩
  · simp [Value.cells] at hcs
    obtain ⟨rfl, rfl, rfl⟩ := hcs
    exact ⟨[], fun d hd => (by cases hd), by unfold maxLen; simp, none, 0, rfl, fun i hi => by simp at hi⟩
  · simp [Value.cells] at hcs
    obtain ⟨rfl, rfl, rfl⟩ := hcs
    have hz' : zs.length = cap := by simpa using hz
    have hb : ∀ z ∈ zs, 0 ≤ z ∧ z < 256 := by
      intro z hz
      have := bounds_u8 (hwz z hz)
      omega
    have hlen : ((zs.take len).map Int.toNat).length = len := by rw [List.length_map, List.length_take]; omega
    refine ⟨(zs.take len).map Int.toNat, ?_, by rw [hlen]; exact Nat.le_trans hl hm, some x, cap, by rw [hlen], ?_⟩
    · intro d hd
      obtain ⟨z, hz, rfl⟩ := List.mem_map.1 hd
      have := hb z (List.mem_of_mem_take hz)
      omega
    · intro i hi
      rw [hlen] at hi
      have hi2 : i < zs.length := by omega
      refine ⟨x, rfl, ?_⟩
      rw [hcell i hi2]
      have e1 : zs.getD i 0 = zs[i] := by rw [List.getD_eq_getElem?_getD, List.getElem?_eq_getElem hi2]; rfl
      have e2 : ((zs.take len).map Int.toNat).getD i 0 = zs[i].toNat := by
        rw [List.getD_eq_getElem?_getD, List.getElem?_map, List.getElem?_take_of_lt hi, List.getElem?_eq_getElem hi2]; rfl
      rw [e1, e2]
      have := hb zs[i] (List.getElem_mem hi2)
      rw [Int.toNat_of_nonneg this.1]
theorem open_u8 {W : World} {base : Nat} {v : Value} (hval : Value.okWide Tryd.prog W .any base 5 v) : ∃ k : Nat, v = .int .u8 (k : Int) ∧ k < 256 := by
  simp only [Value.okWide, Tryd.underlying5, Cell.okWide] at hval
  cases v <;> simp_all [Cell.ok]
  next a n =>
    have h := hval.2
    simp [IntKind.has, IntKind.min, IntKind.max, IntKind.signed, IntKind.bits] at h
    exact ⟨n.toNat, by omega, by omega⟩

theorem open_i16 {W : World} {base : Nat} {v : Value} (hval : Value.okWide Tryd.prog W .any base 39 v) : ∃ k : Int, v = .int .i16 k ∧ -32768 ≤ k ∧ k ≤ 32767 := by
  simp only [Value.okWide, Tryd.underlying39, Cell.okWide] at hval
  cases v <;> simp_all [Cell.ok]
  next a n =>
    have h := hval.2
    simp [IntKind.has, IntKind.min, IntKind.max, IntKind.signed, IntKind.bits] at h
    omega

end Go.Proofs.YtngpdpmhjhgafaaDoor

/-
  Of two numerals the greater one: the mathematics of DecRises, and the law's digits.
-/
namespace Go.Proofs.YtngpdpmhjhgafaaDoor
set_option maxRecDepth 100000
open Go.RowKit Txt Flo

theorem stick_mono {A A' : Nat} (B K : Nat) (h : A ≤ A') : stick A B K ≤ stick A' B K := by
  unfold stick
  have h1 : A * 2 ^ K ≤ A' * 2 ^ K := Nat.mul_le_mul_right _ h
  generalize A * 2 ^ K = a at *
  generalize A' * 2 ^ K = b at *
  have h2 : a / B ≤ b / B := Nat.div_le_div_right h1
  have e1 := Nat.div_add_mod a B
  have e2 := Nat.div_add_mod b B
  rcases Nat.lt_or_eq_of_le h2 with c | c
  · split <;> split <;> omega
  · rw [c] at e1 ⊢
    split
    · split <;> omega
    · next hz =>
      rw [if_neg (by omega)]
      exact Nat.le_refl _
theorem nearR_mono {A A' : Nat} (B : Nat) (h : A ≤ A') : nearR A B ≤ nearR A' B := by
  by_cases h0 : A = 0
  · unfold nearR; rw [if_pos h0]; exact Nat.zero_le _
  · unfold nearR
    rw [if_neg h0, if_neg (by omega)]
    exact rung_mono _ (stick_mono _ _ h)
theorem decN_mono {N M : Nat} (E : Int) (h : N ≤ M) : decN N E ≤ decN M E := by
  unfold decN
  split
  · exact nearR_mono _ (Nat.mul_le_mul_right _ h)
  · exact nearR_mono _ h
theorem decN_le (N : Nat) (E : Int) : decN N E ≤ 9218868437227405312 := by
  unfold decN nearR
  repeat' split
  all_goals first | exact rung_le _ _ | exact Nat.zero_le _
theorem not_less {a b : Nat} (ha : a ≤ 9218868437227405312) (hb : b ≤ 9218868437227405312) (h : b ≤ a) : lessB (a : Int) (b : Int) = false := by
  unfold lessB nanB
  have e1 : sv (a : Int) = a := by unfold sv; rw [if_neg (by omega)]
  have e2 : sv (b : Int) = b := by unfold sv; rw [if_neg (by omega)]
  rw [e1, e2, decide_eq_false (show ¬ ((a : Int) < (b : Int)) by omega)]
  simp
/-- How two rows of digits stand. -/
def St (S T : List UInt8) (d : Int) : Prop := AllD S ∧ AllD T ∧ S.length = T.length ∧ ((d = 0 ∧ S = T) ∨ (0 < d ∧ dv T 0 < dv S 0) ∨ (d < 0 ∧ dv S 0 < dv T 0))
theorem ten_nat (b : Nat) : (UInt8.ofNat (48 + b % 10)).toNat = 48 + b % 10 := by rw [UInt8.toNat_ofNat']; omega
theorem St.step {S T : List UInt8} {d : Int} (h : St S T d) (a b : Nat) :
    St (S ++ [UInt8.ofNat (48 + a % 10)]) (T ++ [UInt8.ofNat (48 + b % 10)]) (if d = 0 ∧ a % 10 ≠ b % 10 then ((a % 10 : Nat) : Int) - ((b % 10 : Nat) : Int) else d) := by
  obtain ⟨h1, h2, h3, h4⟩ := h
  refine ⟨allD_snoc h1 (isD_ten a), allD_snoc h2 (isD_ten b), by simp [h3], ?_⟩
  rw [dv_snoc, dv_snoc, ten_nat, ten_nat]
  have ha := Nat.mod_lt a (show 0 < 10 by decide)
  have hb := Nat.mod_lt b (show 0 < 10 by decide)
  rcases h4 with ⟨rfl, rfl⟩ | ⟨c, h4⟩ | ⟨c, h4⟩
  · by_cases e : a % 10 = b % 10
    · rw [if_neg (by omega), e]; exact Or.inl ⟨rfl, rfl⟩
    · rw [if_pos ⟨rfl, e⟩]
      rcases Nat.lt_or_gt_of_ne e with g | g
      · exact Or.inr (Or.inr ⟨by omega, by omega⟩)
      · exact Or.inr (Or.inl ⟨by omega, by omega⟩)
  · rw [if_neg (by omega)]; exact Or.inr (Or.inl ⟨c, by omega⟩)
  · rw [if_neg (by omega)]; exact Or.inr (Or.inr ⟨c, by omega⟩)
/-- What is parsed of digits, an e and an exponent. -/
theorem parse_e {S L : List UInt8} {neg : Bool} (hS : AllD S) (hS0 : S ≠ []) (hL : AllD L) (hL0 : L ≠ []) (hl : S.length + L.length + 2 ≤ 400) :
    parseW (S ++ 101 :: ((if neg then [45] else []) ++ L)) = (decN (dv S 0) (if neg then -(dv L 0 : Int) else dv L 0), 0) := by
  have h1 := dig_app (X := 101 :: ((if neg then [45] else []) ++ L)) hS (Or.inr ⟨101, _, rfl, rfl⟩)
  have h2 := dig_app (X := []) hL (Or.inl rfl)
  rw [List.append_nil] at h2
  have hD : ∀ ng, expD ng L = some (if ng then -(dv L 0 : Int) else dv L 0) := by
    intro ng
    unfold expD
    rw [h2.1, h2.2, if_neg hL0, if_pos rfl]
  have hE : Txt.expo (101 :: ((if neg then [45] else []) ++ L)) = some (if neg then -(dv L 0 : Int) else dv L 0) := by
    rw [expo_cons, if_pos (Or.inl (show (101 : UInt8).toNat = 101 from rfl))]
    cases neg
    · match L, hL0, hD with
      | c :: r, _, hD =>
        have hc := hL c (by simp)
        unfold isD at hc
        have := of_decide_eq_true hc
        show expS (c :: r) = _
        rw [expS_cons, if_neg (by omega), if_neg (by omega)]
        exact hD false
    · show expS (45 :: L) = _
      rw [expS_cons, if_pos (show (45 : UInt8).toNat = 45 from rfl)]
      exact hD true
  have hn : numL (S ++ 101 :: ((if neg then [45] else []) ++ L)) = some (S, if neg then -(dv L 0 : Int) else dv L 0) := by
    unfold numL
    rw [h1.1, h1.2, if_neg hS0]
    show (if (101 : UInt8).toNat = 46 then _ else _) = _
    rw [if_neg (show ¬ (101 : UInt8).toNat = 46 by decide), hE]
    rfl
  exact parseW_some (by cases neg <;> simp <;> omega) hn

set_option maxHeartbeats 1000000 in
theorem lawDigits_any : ∀ (n : Nat) (w : World), n ≤ 99999 → Calls Tryd.prog 14 #[.int .i64 n] w fun e w' => (∃ L, e = .returned (.string (bs L)) ∧ AllD L ∧ L ≠ [] ∧ (∀ k, 0 < k → n < 10 ^ k → L.length ≤ k) ∧ dv L 0 = n) ∧ Below w.heap.size w w' := by
  intro n
  induction n using Nat.strongRecOn with
  | ind n ih =>
    intro w hn
    obtain ⟨d, hdd⟩ : ∃ d, d = 48 + n % 10 := ⟨_, rfl⟩
    obtain ⟨r, hr⟩ : ∃ r, r = n % 10 := ⟨_, rfl⟩
    have e1 : (n : Int) % 10 = (r : Int) := by omega
    have e2 : 48 + (r : Int) = (d : Int) := by omega
    have e3 : IntKind.u8.wrap (r : Int) = (r : Int) := by rw [IntKind.wrap_u8]; omega
    have hr9 : r < 10 := by omega
    have hd5 : d < 58 := by omega
    have hcv := conv_one w d
    have hisd : isD (UInt8.ofNat d) = true := by rw [hdd]; exact isD_ten n
    have hnat : (UInt8.ofNat d).toNat = 48 + r := by rw [hdd, hr]; exact ten_nat n
    have hs1 : (bs [UInt8.ofNat d]).size = 1 := by rw [bs_size]; rfl
    have HBn : Hid (Below w.heap.size w (w.alloc (.cells #[.int .u8 (d : Int)] 5))) := (Below.refl _ _).alloc (Nat.le_refl _) _
    by_cases c : n < 10
    · have ci : ¬ (10 : Int) ≤ (n : Int) := by omega
      have HQ : Hid (AllD [UInt8.ofNat d] ∧ dv [UInt8.ofNat d] 0 = n) := by
        refine ⟨fun x hx => by rw [List.mem_singleton.1 hx]; exact hisd, ?_⟩
        show 0 * 10 + ((UInt8.ofNat d).toNat - 48) = n
        rw [hnat]; omega
      clear ih hdd hr hisd hnat
      go_enter Tryd.func14, Tryd.ntmps14
      go_wp2
      go_ret
      exact ⟨⟨[UInt8.ofNat d], rfl, HQ.out.1, List.cons_ne_nil _ _, fun k hk _ => hk, HQ.out.2⟩, HBn.out⟩
    · have ci : (10 : Int) ≤ (n : Int) := by omega
      obtain ⟨q, hq⟩ : ∃ q, q = n / 10 := ⟨_, rfl⟩
      have eq1 : (n : Int) / 10 = (q : Int) := by omega
      have hR := fun w => ih q (by omega) w (by omega)
      have HL : Hid (∀ L : List UInt8, AllD L → dv L 0 = q → AllD (L ++ [UInt8.ofNat d]) ∧ dv (L ++ [UInt8.ofNat d]) 0 = n) := by
        intro L hA hv
        refine ⟨allD_snoc hA hisd, ?_⟩
        rw [dv_snoc, hv, hnat]; omega
      have hqn : q ≤ 9999 := by omega
      have HR : Hid (∀ w, Calls Tryd.prog 14 #[.int .i64 q] w fun e w' => (∃ L, e = .returned (.string (bs L)) ∧ AllD L ∧ L ≠ [] ∧ (∀ k, 0 < k → q < 10 ^ k → L.length ≤ k) ∧ dv L 0 = q) ∧ Below w.heap.size w w') := hR
      clear ih hdd hr hisd hnat hq hR
      generalize hcs : bs [UInt8.ofNat d] = cs at *
      go_enter Tryd.func14, Tryd.ntmps14
      go_wp2_with fail
      refine (HR.out _).mono ?_
      rintro e w2 ⟨⟨L, rfl, hA, h0, hlen, hv⟩, hb2⟩
      have HQ : Hid ((∃ L', bs L ++ cs = bs L' ∧ AllD L' ∧ L' ≠ [] ∧ (∀ k, 0 < k → n < 10 ^ k → L'.length ≤ k) ∧ dv L' 0 = n) ∧ Below w.heap.size w w2) := by
        refine ⟨⟨L ++ [UInt8.ofNat d], by rw [← hcs, bs_append], (HL.out L hA hv).1, by simp, ?_, (HL.out L hA hv).2⟩, HBn.out.trans (hb2.mono (by simp))⟩
        intro k hk hnk
        have k1 : k ≠ 1 := by intro e; subst e; omega
        obtain ⟨j, rfl⟩ : ∃ j, k = j + 1 := ⟨k - 1, by omega⟩
        rw [List.length_append, List.length_singleton]
        have := hlen j (by omega) (by rw [Nat.pow_succ] at hnk; omega)
        omega
      have hz : (bs L).size ≤ 5 := by rw [bs_size]; exact hlen 5 (by decide) (by omega)
      clear hA h0 hlen hv hb2 HL hcs
      generalize bs L = sl at *
      go_wp2
      go_ret
      obtain ⟨⟨L', h1, h2, h3, h4, h5⟩, h6⟩ := HQ.out
      exact ⟨⟨L', by rw [h1]; rfl, h2, h3, h4, h5⟩, h6⟩
/-- Of a number below 0 it tells some one sign, which the law does not use. -/
theorem lawDigits_neg (n : Int) (w : World) (h0 : -32768 ≤ n) (h1 : n < 0) : Calls Tryd.prog 14 #[.int .i64 n] w fun e w' => (∃ s : ByteArray, e = .returned (.string s) ∧ s.size = 1) ∧ Below w.heap.size w w' := by
  obtain ⟨r, hr⟩ : ∃ r, r = n.tmod 10 := ⟨_, rfl⟩
  have e1 : n.tmod 10 = r := hr.symm
  obtain ⟨d, hd⟩ : ∃ d : Nat, (d : Int) = IntKind.u8.wrap (48 + IntKind.u8.wrap r) ∧ d < 256 := ⟨(IntKind.u8.wrap (48 + IntKind.u8.wrap r)).toNat, by rw [IntKind.wrap_u8, IntKind.wrap_u8]; omega, by rw [IntKind.wrap_u8, IntKind.wrap_u8]; omega⟩
  have hcv := conv_one w d
  have hs1 : (bs [UInt8.ofNat d]).size = 1 := by rw [bs_size]; rfl
  generalize bs [UInt8.ofNat d] = cs at *
  have hd1 := hd.1.symm
  have hd2 : (48 + r % 256) % 256 = (d : Int) := by have := hd.1; rw [IntKind.wrap_u8, IntKind.wrap_u8] at this; omega
  have ci : ¬ (10 : Int) ≤ n := by omega
  have HBn : Hid (Below w.heap.size w (w.alloc (.cells #[.int .u8 (d : Int)] 5))) := (Below.refl _ _).alloc (Nat.le_refl _) _
  clear hr hd
  go_enter Tryd.func14, Tryd.ntmps14
  go_wp2
  go_ret
  exact ⟨⟨_, rfl, hs1⟩, HBn.out⟩

end Go.Proofs.YtngpdpmhjhgafaaDoor
