/-
  The landed First, walked.
-/
import Derived.Test.YtjngknnkffbnmaaDoorFrSum
import Derived.Lib.SlBytesConst
import Derived.Deep.RegionHeld3
import Derived.OwnWalk
namespace Go.Proofs.YtjngknnkffbnmaaDoor
set_option maxRecDepth 100000
open Go.RowKit Crc

theorem and1_i (a : Nat) (ha : a < 4294967296) : bits .and .u32 (a : Int) 1 = ((a % 2 : Nat) : Int) := by
  rw [show (1 : Int) = ((1 : Nat) : Int) from rfl, u32_and_nat a 1 ha (by decide)]
  rw [show (1 : Nat) = 2 ^ 1 - 1 from rfl, Nat.and_two_pow_sub_one_eq_mod]
theorem and1_b (a : Nat) (ha : a < 256) : bits .and .u8 (a : Int) 1 = ((a % 2 : Nat) : Int) := by
  rw [show (1 : Int) = ((1 : Nat) : Int) from rfl, u8_and_nat a 1 ha (by decide)]
  rw [show (1 : Nat) = 2 ^ 1 - 1 from rfl, Nat.and_two_pow_sub_one_eq_mod]

set_option maxHeartbeats 1000000 in
theorem refSum_any (v : Value) (l : List Nat) (w : World) (h : BR w v l) :
    Calls Tryd.prog 54 #[v] w fun e w' => e = .returned (.int .u32 (sumN l : Nat)) ∧ w' = w := by
  obtain ⟨h1, a, cap, rfl, h3, h4, h5⟩ := h
  unfold maxLen at h4
  have HS : Hid (Sm8 l) := h1
  have HX : Hid ((a = none ∧ cap = 0) ∨ ∃ x, a = some x ∧ ∀ i, i < l.length → w.cell? (x.add i) = some (.int .u8 (l.getD i 0 : Nat))) := h5
  have HLen : Hid (l.length ≤ cap) := h3
  obtain ⟨m, hm⟩ : ∃ m, m = l.length := ⟨_, rfl⟩
  have HM : Hid (m = l.length) := hm
  have hlen : m ≤ 9223372036854775807 := by omega
  rw [← hm]
  clear h1 h3 h4 h5 hm
  go_enter Tryd.func54, Tryd.ntmps54
  go_wp2_with fail
  go_loop [3, 4] (fun t3 t4 => ∃ i c : Nat, i ≤ m ∧ c < 4294967296 ∧ t4 = .int .i64 i ∧ t3 = .int .u32 c ∧ Hid (c = crcL 4294967295 (l.take i))) (fun _ t4 => m - (intOf t4).toNat)
  case atStart => exact ⟨0, 4294967295, Nat.zero_le _, by decide, rfl, rfl, rfl⟩
  case round =>
    obtain ⟨i, c, hi, hcl, rfl, rfl, HI⟩ := hrel
    by_cases hil : i < m
    · rcases HX.out with ⟨rfl, rfl⟩ | ⟨x, rfl, hcc⟩
      · exfalso; have := HLen.out; have := HM.out; omega
      · have hce := hcc i (by have := HM.out; omega)
        have hd := HS.out.getD i
        have HD : Hid (crcL 4294967295 (l.take (i + 1)) = crcB c (l.getD i 0)) := by
          have e := HI.out
          show _ = _
          rw [crcL_take (by have := HM.out; omega), ← e]
        generalize l.getD i 0 = d at hce hd HD
        clear HI hcc
        go_wp2_with fail
        go_loop [3, 5] (fun t3 t5 => ∃ k e : Nat, k ≤ 8 ∧ e < 4294967296 ∧ t5 = .int .i64 k ∧ t3 = .int .u32 e ∧ Hid (e = fsn k (c ^^^ d % 2 ^ k))) (fun _ t5 => 8 - (intOf t5).toNat)
        case atStart => exact ⟨0, c, Nat.zero_le _, hcl, rfl, rfl, by show c = c ^^^ d % 2 ^ 0; rw [Nat.pow_zero, Nat.mod_one, Nat.xor_zero]⟩
        case round =>
          obtain ⟨k, e, hk, hel, rfl, rfl, HJ⟩ := hrel
          by_cases hk8 : k < 8
          · have t1 := and1_i e hel
            obtain ⟨q, hq⟩ : ∃ q, q = d / 2 ^ k := ⟨_, rfl⟩
            have hqi : (d : Int) / 2 ^ k = (q : Int) := by rw [hq, Int.natCast_ediv, Int.natCast_pow]; rfl
            have hql : q < 256 := by rw [hq]; exact Nat.lt_of_le_of_lt (Nat.div_le_self _ _) hd
            have t2 := and1_b q hql
            have HB : Hid (e / 2 ^^^ (if e % 2 ≠ q % 2 then 3988292384 else 0) = fsn (k + 1) (c ^^^ d % 2 ^ (k + 1))) := by
              show _ = _
              rw [← bit_step, ← HJ.out, ← hq, bit_in (Nat.mod_lt _ (by decide))]
            obtain ⟨p, hp⟩ : ∃ p, p = e % 2 := ⟨_, rfl⟩
            obtain ⟨r, hr⟩ : ∃ r, r = q % 2 := ⟨_, rfl⟩
            rw [← hp] at t1 HB
            rw [← hr] at t2 HB
            have hp2 : p < 2 := by omega
            have hr2 : r < 2 := by omega
            by_cases hb : p = r
            · subst hb
              have HE : Hid (e / 2 = fsn (k + 1) (c ^^^ d % 2 ^ (k + 1))) := by have := HB.out; rw [if_neg (by simp), Nat.xor_zero] at this; exact this
              clear HB HJ hp hr hq
              go_wp2
              go_round
              case rel => exact ⟨k + 1, e / 2, by omega, by omega, by go_num, by go_num, HE⟩
              case measure => simp [intOf]; omega
            · have HE : Hid (e / 2 ^^^ 3988292384 = fsn (k + 1) (c ^^^ d % 2 ^ (k + 1))) := by have := HB.out; rw [if_pos hb] at this; exact this
              have hbb : ((p : Int) == (r : Int)) = false := by rw [beq_eq_false_iff_ne]; omega
              have t3 := xor_i (e / 2) 3988292384 (by omega) (by decide)
              have l3 : e / 2 ^^^ 3988292384 < 4294967296 := Nat.xor_lt_two_pow (n := 32) (show e / 2 < 2 ^ 32 by omega) (by decide)
              rw [Int.natCast_ediv] at t3
              generalize e / 2 ^^^ 3988292384 = e2 at t3 HE l3
              replace t3 : bits .xor .u32 ((e : Int) / 2) 3988292384 = (e2 : Int) := t3
              clear HB HJ hp hr hq
              go_wp2
              go_round
              case rel => exact ⟨k + 1, e2, by omega, l3, by go_num, rfl, HE⟩
              case measure => simp [intOf]; omega
          · have hk2 : k = 8 := by omega
            subst hk2
            have HE : Hid (e = crcL 4294967295 (l.take (i + 1))) := by
              have := HJ.out
              rw [Nat.mod_eq_of_lt (show d < 2 ^ 8 from hd)] at this
              rw [HD.out]; exact this
            clear HJ
            go_wp2
            go_round
            case rel => exact ⟨i + 1, e, by omega, hel, by go_num, rfl, HE⟩
            case measure => simp [intOf]; omega
    · have hj2 : i = m := by omega
      subst hj2
      have HE : Hid (bits .xor .u32 IntKind.u32.max (c : Int) = ((sumN l : Nat) : Int)) := by
        have := HI.out
        rw [List.take_of_length_le (by have := HM.out; omega)] at this
        show _ = _
        rw [show IntKind.u32.max = ((4294967295 : Nat) : Int) from rfl, xor_i _ _ (by decide) hcl, Nat.xor_comm, this]; rfl
      have t1 := HE.out
      clear HI
      go_wp2
      go_ret
      exact ⟨rfl, rfl⟩

theorem cells_at (w : World) (cs : Array Value) (t j : Nat) (fr : Nat × Nat) {u : Value} (h : cs[j]? = some u) : (w.alloc (.cells cs t fr)).cell? ⟨w.heap.size, j, none⟩ = some u := by
  unfold World.cell?
  rw [heap_alloc_new]
  exact h

def nine : List Nat := [49, 50, 51, 52, 53, 54, 55, 56, 57]
theorem br_made (w : World) (l : List Nat) (fr : Nat × Nat) (hl : Sm8 l) (hn : l.length ≤ maxLen) : BR (w.alloc (.cells (c8 l).toArray 5 fr)) (.slice (some ⟨w.heap.size, 0, none⟩) l.length l.length) l := by
  refine ⟨hl, _, _, rfl, Nat.le_refl _, hn, Or.inr ⟨_, rfl, ?_⟩⟩
  intro i hi
  have : (⟨w.heap.size, 0, none⟩ : Addr).add i = ⟨w.heap.size, i, none⟩ := by unfold Addr.add; split <;> simp_all
  rw [this]
  exact cells_at _ _ _ _ _ (by rw [List.getElem?_toArray]; exact c8_get hi)

end Go.Proofs.YtjngknnkffbnmaaDoor
namespace Go.Proofs.YtjngknnkffbnmaaDoor
set_option maxRecDepth 100000
open Go.RowKit Crc

def be4 (n : Nat) : List Nat := [n / 16777216 % 256, n / 65536 % 256, n / 256 % 256, n % 256]
def w4 (l : List Nat) : Nat := l.getD 0 0 * 16777216 + l.getD 1 0 * 65536 + l.getD 2 0 * 256 + l.getD 3 0
theorem be4_sm (n : Nat) : Sm8 (be4 n) := by
  intro d hd
  unfold be4 at hd
  simp at hd
  omega
theorem w4_lt {l : List Nat} (h : Sm8 l) : w4 l < 4294967296 := by
  have := h.getD 0; have := h.getD 1; have := h.getD 2; have := h.getD 3
  unfold w4; omega
theorem w4_be4 {n : Nat} (h : n < 4294967296) (m : List Nat) : w4 (be4 n ++ m) = n := by
  unfold w4 be4
  simp
  omega

set_option maxHeartbeats 400000 in
theorem appendWord_any (v : Value) (l : List Nat) (n B : Nat) (w : World) (h : OW w B v l) (hB : B ≤ w.heap.size) (hn : n < 4294967296) (hl : l.length ≤ 1000000000) :
    Calls Tryd.prog 50 #[v, .int .u32 n] w fun e w' => ∃ v', e = .returned v' ∧ OW w' B v' (l ++ be4 n) ∧ Below B w w' := by
  obtain ⟨i0, hi0, hz0, hz1, hz2⟩ := info_parts info8
  obtain ⟨k, hk⟩ : ∃ k, k = l.length := ⟨_, rfl⟩
  have hown := h.2
  have HS : Hid (Sm8 l ∧ k = l.length) := ⟨h.1, hk⟩
  rw [← hk] at hown hl
  have q1 : (n : Int) / 16777216 = ((n / 16777216 % 256 : Nat) : Int) := by omega
  have q2 : (n : Int) / 65536 % 256 = ((n / 65536 % 256 : Nat) : Int) := by omega
  have q3 : (n : Int) / 256 % 256 = ((n / 256 % 256 : Nat) : Int) := by omega
  have q4 : (n : Int) % 256 = ((n % 256 : Nat) : Int) := by omega
  have HE : Hid (be4 n = [n / 16777216 % 256, n / 65536 % 256, n / 256 % 256, n % 256]) := rfl
  generalize n / 16777216 % 256 = a1 at *
  generalize n / 65536 % 256 = a2 at *
  generalize n / 256 % 256 = a3 at *
  generalize n % 256 = a4 at *
  have hown2 : (w.alloc (.cells #[.int .u8 (a1 : Int), .int .u8 (a2 : Int), .int .u8 (a3 : Int), .int .u8 (a4 : Int)] 5)).ownsRow B 5 1 v k (c8 l) := hown.alloc _
  have HB : Hid (Below B w (w.alloc (.cells #[.int .u8 (a1 : Int), .int .u8 (a2 : Int), .int .u8 (a3 : Int), .int .u8 (a4 : Int)] 5))) := (Below.refl _ _).alloc hB _
  clear h hown hk
  go_enter Tryd.func50, Tryd.ntmps50
  go_wp2_with (at_builtin; refine wpList_append_own _ rfl _ _ 31 rfl B 5 i0 (.int .u8 0) 1 1 Tryd.underlying31 hi0 hz0 hz1 hz2 rfl (by decide) v k (c8 l) rfl hown2 ⟨w.heap.size, 0, none⟩ 4 4 [.int .u8 (a1 : Int), .int .u8 (a2 : Int), .int .u8 (a3 : Int), .int .u8 (a4 : Int)] rfl rfl (World.news_of_block (cs := #[.int .u8 (a1 : Int), .int .u8 (a2 : Int), .int .u8 (a3 : Int), .int .u8 (a4 : Int)]) (t := 5) (fr := (0, 0)) (heap_alloc_new w _)) (by simp [Value.oneCell']) (by unfold maxLen; omega) (by omega) (by simp; omega) ?_)
  intro v' w1 hown1 hgrow _
  have HQ : Hid (OW w1 B v' (l ++ be4 n) ∧ Below B w w1) := by
    refine ⟨⟨HS.out.1.append (be4_sm n), ?_⟩, HB.out.grown hgrow (by simp; omega) (fun k hk => (hown2.lt k hk).1)⟩
    rw [c8_append, HE.out, List.length_append, ← HS.out.2]
    exact hown1
  clear hown1 hgrow
  go_wp2
  go_ret
  exact ⟨_, rfl, HQ.out⟩

set_option maxHeartbeats 400000 in
theorem four_any (n : Nat) (w : World) (hn : n < 4294967296) :
    Calls Tryd.prog 53 #[.int .u32 n] w fun e w' => ∃ v', e = .returned v' ∧ OW w' w.heap.size v' (be4 n) ∧ Below w.heap.size w w' := by
  have q1 : (n : Int) / 16777216 = ((n / 16777216 % 256 : Nat) : Int) := by omega
  have q2 : bits .and .u32 ((n : Int) / 65536) 255 = ((n / 65536 % 256 : Nat) : Int) := by
    rw [show (n : Int) / 65536 = ((n / 65536 : Nat) : Int) by omega, show (255 : Int) = ((255 : Nat) : Int) from rfl, u32_and_nat _ 255 (by omega) (by decide), show (255 : Nat) = 2 ^ 8 - 1 from rfl, Nat.and_two_pow_sub_one_eq_mod]
  have q3 : bits .and .u32 ((n : Int) / 256) 255 = ((n / 256 % 256 : Nat) : Int) := by
    rw [show (n : Int) / 256 = ((n / 256 : Nat) : Int) by omega, show (255 : Int) = ((255 : Nat) : Int) from rfl, u32_and_nat _ 255 (by omega) (by decide), show (255 : Nat) = 2 ^ 8 - 1 from rfl, Nat.and_two_pow_sub_one_eq_mod]
  have q4 : bits .and .u32 (n : Int) 255 = ((n % 256 : Nat) : Int) := by
    rw [show (255 : Int) = ((255 : Nat) : Int) from rfl, u32_and_nat _ 255 (by omega) (by decide), show (255 : Nat) = 2 ^ 8 - 1 from rfl, Nat.and_two_pow_sub_one_eq_mod]
  have HE : Hid (be4 n = [n / 16777216 % 256, n / 65536 % 256, n / 256 % 256, n % 256]) := rfl
  have b2 : n / 65536 % 256 < 256 := by omega
  have b3 : n / 256 % 256 < 256 := by omega
  have b4 : n % 256 < 256 := by omega
  generalize n / 16777216 % 256 = a1 at *
  generalize n / 65536 % 256 = a2 at *
  generalize n / 256 % 256 = a3 at *
  generalize n % 256 = a4 at *
  have HQ : Hid (OW (w.alloc (.cells #[.int .u8 (a1 : Int), .int .u8 (a2 : Int), .int .u8 (a3 : Int), .int .u8 (a4 : Int)] 5)) w.heap.size (.slice (some ⟨w.heap.size, 0, none⟩) 4 4) (be4 n) ∧ Below w.heap.size w (w.alloc (.cells #[.int .u8 (a1 : Int), .int .u8 (a2 : Int), .int .u8 (a3 : Int), .int .u8 (a4 : Int)] 5))) := by
    refine ⟨⟨be4_sm n, ?_⟩, (Below.refl _ _).alloc (Nat.le_refl _) _⟩
    rw [HE.out]
    exact ⟨rfl, Or.inr ⟨w.heap.size, 4, _, rfl, Nat.le_refl _, heap_alloc_new w _, Nat.le_refl _, by decide, rfl, rfl⟩⟩
  go_enter Tryd.func53, Tryd.ntmps53
  go_wp2
  go_ret
  exact ⟨_, rfl, HQ.out⟩

theorem or_word (a b c d : Nat) (hb : b < 256) (hc : c < 256) (hd : d < 256) :
    a * 16777216 ||| b * 65536 ||| c * 256 ||| d = a * 16777216 + b * 65536 + c * 256 + d := by
  have e1 : a * 16777216 ||| b * 65536 = a * 16777216 + b * 65536 := by
    rw [show a * 16777216 = 2 ^ 24 * a by omega, ← Nat.two_pow_add_eq_or_of_lt (show b * 65536 < 2 ^ 24 by omega)]
  have e2 : (a * 16777216 + b * 65536) ||| c * 256 = a * 16777216 + b * 65536 + c * 256 := by
    rw [show a * 16777216 + b * 65536 = 2 ^ 16 * (a * 256 + b) by omega, ← Nat.two_pow_add_eq_or_of_lt (show c * 256 < 2 ^ 16 by omega)]
  have e3 : (a * 16777216 + b * 65536 + c * 256) ||| d = a * 16777216 + b * 65536 + c * 256 + d := by
    rw [show a * 16777216 + b * 65536 + c * 256 = 2 ^ 8 * (a * 65536 + b * 256 + c) by omega, ← Nat.two_pow_add_eq_or_of_lt (show d < 2 ^ 8 by omega)]
  rw [e1, e2, e3]

set_option maxHeartbeats 400000 in
theorem word_any (v : Value) (l : List Nat) (w : World) (h : BR w v l) (hl : 4 ≤ l.length) :
    Calls Tryd.prog 55 #[v] w fun e w' => e = .returned (.int .u32 (w4 l : Nat)) ∧ ∃ q, w' = w.drewN q := by
  obtain ⟨_, a, cap, rfl, _, _, _⟩ := id h
  obtain ⟨b, o, rfl, _, hc⟩ := h.lies (by omega)
  have c0 := hc 0 (by omega)
  have c1 := hc 1 (by omega)
  have c2 := hc 2 (by omega)
  have c3 := hc 3 (by omega)
  have d0 := h.1.getD 0
  have d1 := h.1.getD 1
  have d2 := h.1.getD 2
  have d3 := h.1.getD 3
  rw [Nat.add_zero] at c0
  clear hc
  have HW : Hid (w4 l = l.getD 0 0 * 16777216 + l.getD 1 0 * 65536 + l.getD 2 0 * 256 + l.getD 3 0) := rfl
  generalize l.getD 0 0 = y0 at *
  generalize l.getD 1 0 = y1 at *
  generalize l.getD 2 0 = y2 at *
  generalize l.getD 3 0 = y3 at *
  have o1 := u32_or_nat (y0 * 16777216) (y1 * 65536) (by omega) (by omega)
  have l1 : y0 * 16777216 ||| y1 * 65536 < 2 ^ 32 := Nat.or_lt_two_pow (show y0 * 16777216 < 2 ^ 32 by omega) (by omega)
  have o2 := u32_or_nat (y0 * 16777216 ||| y1 * 65536) (y2 * 256) l1 (by omega)
  have l2 : y0 * 16777216 ||| y1 * 65536 ||| y2 * 256 < 2 ^ 32 := Nat.or_lt_two_pow l1 (by omega)
  have o3 := u32_or_nat (y0 * 16777216 ||| y1 * 65536 ||| y2 * 256) y3 l2 (by omega)
  rw [or_word y0 y1 y2 y3 d1 d2 d3, ← HW.out] at o3
  generalize y0 * 16777216 ||| y1 * 65536 ||| y2 * 256 = z2 at *
  generalize y0 * 16777216 ||| y1 * 65536 = z1 at *
  have p0 : (y0 : Int) * 16777216 % 4294967296 = (y0 : Int) * 16777216 := by omega
  have p1 : (y1 : Int) * 65536 % 4294967296 = (y1 : Int) * 65536 := by omega
  have p2 : (y2 : Int) * 256 % 4294967296 = (y2 : Int) * 256 := by omega
  rw [Int.natCast_mul, Int.natCast_mul] at o1
  rw [Int.natCast_mul] at o2
  replace o1 : bits .or .u32 ((y0 : Int) * 16777216) ((y1 : Int) * 65536) = (z1 : Int) := o1
  replace o2 : bits .or .u32 (z1 : Int) ((y2 : Int) * 256) = (z2 : Int) := o2
  generalize w4 l = r at *
  obtain ⟨n, hn⟩ : ∃ n, n = l.length := ⟨_, rfl⟩
  rw [← hn] at hl ⊢
  have k0 : (0 : Int) < (n : Int) := by omega
  have k00 : 0 < n := by omega
  have k1 : (1 : Int) < (n : Int) := by omega
  have k2 : (2 : Int) < (n : Int) := by omega
  have k3 : (3 : Int) < (n : Int) := by omega
  clear h HW hn
  go_enter Tryd.func55, Tryd.ntmps55
  go_wp2_with fail
  go_region_held3 (fun w' => w'.cell? ⟨b, o, none⟩ = some (.int .u8 (y0 : Int)) ∧ w'.cell? ⟨b, o + 1, none⟩ = some (.int .u8 (y1 : Int)) ∧ w'.cell? ⟨b, o + 2, none⟩ = some (.int .u8 (y2 : Int)) ∧ w'.cell? ⟨b, o + 3, none⟩ = some (.int .u8 (y3 : Int))) (go_keep) (fail)
  go_wp2
  go_ret
  have v0 : IntKind.u32.wrap (y0 : Int) = (y0 : Int) := by rw [IntKind.wrap_u32]; omega
  have v1 : IntKind.u32.wrap (y1 : Int) = (y1 : Int) := by rw [IntKind.wrap_u32]; omega
  have v2 : IntKind.u32.wrap (y2 : Int) = (y2 : Int) := by rw [IntKind.wrap_u32]; omega
  have v3 : IntKind.u32.wrap (y3 : Int) = (y3 : Int) := by rw [IntKind.wrap_u32]; omega
  have u0 : IntKind.u32.wrap ((y0 : Int) * 16777216) = (y0 : Int) * 16777216 := by rw [IntKind.wrap_u32]; omega
  have u1 : IntKind.u32.wrap ((y1 : Int) * 65536) = (y1 : Int) * 65536 := by rw [IntKind.wrap_u32]; omega
  have u2 : IntKind.u32.wrap ((y2 : Int) * 256) = (y2 : Int) * 256 := by rw [IntKind.wrap_u32]; omega
  refine ⟨?_, 1, rfl⟩
  show Ending.returned (Value.int .u32 _) = _
  rw [v0, v1, v2, v3, u0, u1, u2, o1, o2, o3]

end Go.Proofs.YtjngknnkffbnmaaDoor
namespace Go.Proofs.YtjngknnkffbnmaaDoor
set_option maxRecDepth 100000
open Go.RowKit Crc

/-- A frame's bytes. -/
def frm (l : List Nat) : List Nat := be4 l.length ++ be4 (sumN (be4 l.length ++ l)) ++ l
theorem frm_length (l : List Nat) : (frm l).length = 8 + l.length := by unfold frm be4; simp; omega
theorem frm_sm {l : List Nat} (h : Sm8 l) : Sm8 (frm l) := ((be4_sm _).append (be4_sm _)).append h

theorem frame_long (v : Value) (l : List Nat) (w : World) (h : BR w v l) (hl : 1048576 < l.length) :
    Calls Tryd.prog 29 #[v] w fun e w' => e = .returned (.tuple #[.slice none 0 0, .int .i64 2]) ∧ w' = w := by
  obtain ⟨_, a, cap, rfl, h3, h4, _⟩ := h
  unfold maxLen at h4
  have hi : (1048576 : Int) < (l.length : Int) := by omega
  generalize l.length = n at *
  go_enter Tryd.func29, Tryd.ntmps29
  go_wp2
  go_ret2
  exact ⟨rfl, rfl⟩

set_option maxHeartbeats 1000000 in
theorem frame_any (v : Value) (l : List Nat) (w : World) (h : BR w v l) (hT : Tb w) (h0 : 0 < w.heap.size) (hl : l.length ≤ 1048576) :
    Calls Tryd.prog 29 #[v] w fun e w' => ∃ v', e = .returned (.tuple #[v', .int .i64 0]) ∧ OW w' w.heap.size v' (frm l) ∧ Below w.heap.size w w' := by
  obtain ⟨i0, hi0, hz0, hz1, hz2⟩ := info_parts info8
  obtain ⟨n, hn⟩ : ∃ n, n = l.length := ⟨_, rfl⟩
  have HR : Hid (BR w v l) := h
  have HT : Hid (Tb w) := hT
  obtain ⟨s1, a, cap, rfl, h3, h4, h5⟩ := h
  have HN : Hid (n = l.length) := hn
  replace HR : Hid (BR w (.slice a n cap) l) := by rw [hn]; exact HR
  have HX : Hid ((a = none ∧ cap = 0) ∨ ∃ x, a = some x ∧ ∀ i, i < l.length → w.cell? (x.add i) = some (.int .u8 (l.getD i 0 : Nat))) := h5
  have HL : Hid (l.length ≤ cap) := h3
  rw [← hn] at hl ⊢
  have hi : ¬ (1048576 : Int) < (n : Int) := by omega
  have HS : Hid (Sm8 l) := s1
  clear s1 h3 h4 h5 hn hT
  go_enter Tryd.func29, Tryd.ntmps29
  go_wp2_with (at_make; refine wpList_make_own _ rfl _ _ 31 rfl w.heap.size 5 i0 (.int .u8 0) 1 Tryd.underlying31 hi0 hz0 hz1 .i64 .i64 _ (8 + n) rfl rfl (by omega) (by rw [hz2]; omega) (by unfold maxLen; omega) (Nat.le_refl _) ?_)
  intro w1 ho1 hg1
  have hO1 : OW w1 w.heap.size (.slice (some ⟨w.heap.size, 0, none⟩) 0 (8 + n)) [] := ⟨fun d hd => (by cases hd), ho1⟩
  have hb1 : Below w.heap.size w w1 := (Below.refl _ _).grown hg1 (Nat.le_refl _) (fun k hk => by cases hk)
  have z1 := hb1.size
  have hn1 : (n : Int) % 4294967296 = (n : Int) := by omega
  clear ho1 hg1
  go_wp2_with fail
  refine (appendWord_any _ [] n w.heap.size w1 hO1 z1 (by omega) (by simp)).mono ?_
  rintro e w2 ⟨v2, rfl, hO2, hb2⟩
  rw [List.nil_append] at hO2
  have z2 := hb2.size
  have hB2 := hb1.trans hb2
  obtain ⟨a2, c2, rfl⟩ : ∃ a2 c2, v2 = .slice a2 4 c2 := by
    obtain ⟨_, a2, c2, e, _⟩ := hO2.br
    exact ⟨a2, c2, e⟩
  have hb3 : Below w2.heap.size w2 (w2.alloc (.cells #[.slice a2 4 c2, .slice a n cap] 31)) := (Below.refl _ _).alloc (Nat.le_refl _) _
  have hs := sumOf_any w2.heap.size 2 [.slice a2 4 c2, .slice a n cap] [be4 n, l] (w2.alloc (.cells #[.slice a2 4 c2, .slice a n cap] 31)) rfl (by decide) ((HT.out.below hB2 h0).below hb3 (by omega)) (by
    intro j hj
    have : j = 0 ∨ j = 1 := by omega
    rcases this with rfl | rfl
    · exact ⟨cells_at _ _ _ _ _ rfl, hO2.br.below hb3 (Nat.le_refl _)⟩
    · exact ⟨cells_at _ _ _ _ _ rfl, (HR.out.below hB2 (Nat.le_refl _)).below hb3 (Nat.le_refl _)⟩)
  have e1 : ([be4 n, l] : List (List Nat)).flatten = be4 n ++ l := by simp
  rw [e1] at hs
  have hlt : sumN (be4 n ++ l) < 4294967296 := sumN_lt ((be4_sm n).append HS.out)
  have HF : Hid (frm l = be4 n ++ be4 (sumN (be4 n ++ l)) ++ l) := by show _ = _; unfold frm; rw [← HN.out]
  generalize sumN (be4 n ++ l) = s at *
  have hO3 := hO2.below hb3 (Nat.le_refl _)
  have hB3 := hB2.trans (hb3.mono (by omega))
  have z3 := hb3.size
  clear e1 hO1 hb1 hb2 hO2 hB2 hb3
  go_wp2_with fail
  refine hs.mono ?_
  rintro e w3 ⟨rfl, hw3⟩
  rw [hw3]
  clear hw3 hs
  go_wp2_with fail
  refine (appendWord_any _ _ s w.heap.size _ hO3 (by omega) hlt (by unfold be4; simp)).mono ?_
  rintro e w4 ⟨v4, rfl, hO4, hb4⟩
  have hB4 := hB3.trans hb4
  have z4 := hb4.size
  clear hb4 hB3 hO3
  have hown := hO4.2
  have e2 : (be4 n ++ be4 s).length = 8 := by unfold be4; rfl
  rw [e2] at hown
  rcases HX.out with ⟨rfl, rfl⟩ | ⟨x, rfl, hc⟩
  · have en : n = 0 := by have := HL.out; have := HN.out; omega
    have el : l = [] := List.eq_nil_of_length_eq_zero (by have := HN.out; omega)
    subst en
    have HQ : Hid (OW w4 w.heap.size v4 (frm l) ∧ Below w.heap.size w w4) := by
      refine ⟨?_, hB4⟩
      rw [HF.out, el, List.append_nil]; exact hO4
    go_wp2_with (at_builtin; refine wpList_append_own_none rfl _ _ 31 rfl w.heap.size 5 i0 1 Tryd.underlying31 hi0 _ 8 _ rfl hown rfl ?_)
    go_wp2
    go_ret2
    exact ⟨_, rfl, HQ.out⟩
  · have HC : Hid (∀ j u, (c8 l)[j]? = some u → w4.cell? (x.add j) = some u) := by
      intro j u hu
      obtain ⟨e1, rfl⟩ := c8_at hu
      have := World.block_lt_of_cell? w _ (hc j e1)
      rw [hB4.cell this]
      exact hc j e1
    have ho := c8_one l
    have hd : (c8 l).length = n * 1 := by rw [c8_length]; have := HN.out; omega
    clear hc
    go_wp2_with (at_builtin; refine wpList_append_own _ rfl _ _ 31 rfl w.heap.size 5 i0 (.int .u8 0) 1 1 Tryd.underlying31 hi0 hz0 hz1 hz2 rfl (by decide) v4 8 _ rfl hown x n cap (c8 l) rfl hd HC.out ho (by unfold maxLen; omega) (by omega) (by omega) ?_)
    intro v' w5 hown5 hgrow _
    have HQ : Hid (OW w5 w.heap.size v' (frm l) ∧ Below w.heap.size w w5) := by
      refine ⟨⟨frm_sm HS.out, ?_⟩, grown_below hB4 hown hgrow⟩
      rw [frm_length, HF.out, c8_append, ← HN.out]
      exact hown5
    clear hown5 hgrow
    go_wp2
    go_ret2
    exact ⟨_, rfl, HQ.out⟩

end Go.Proofs.YtjngknnkffbnmaaDoor
namespace Go.Proofs.YtjngknnkffbnmaaDoor
set_option maxRecDepth 100000
open Go.RowKit Crc

theorem below_drewN {B : Nat} {a w : World} (h : Below B a w) (n : Nat) : Below B a (w.drewN n) := ⟨h.os, h.tape, h.output, h.size, h.block⟩
theorem Below.undrewN {B : Nat} {a b : World} {n : Nat} (h : Below B (a.drewN n) b) : Below B a b := ⟨h.os, h.tape, h.output, h.size, h.block⟩
/-- The sum of two rows that lie in one block's cells. -/
theorem sumOf2 (x : World) (g : Nat) (v1 v2 : Value) (l1 l2 : List Nat) (c1 : x.cell? ⟨g, 0, none⟩ = some v1) (c2 : x.cell? ⟨g, 1, none⟩ = some v2) (h1 : BR x v1 l1) (h2 : BR x v2 l2) (hT : Tb x) :
    Calls Tryd.prog 51 #[.slice (some ⟨g, 0, none⟩) 2 2] x fun e w' => e = .returned (.int .u32 (sumN (l1 ++ l2) : Nat)) ∧ w' = x := by
  have := sumOf_any g 2 [v1, v2] [l1, l2] x rfl (by decide) hT (by
    intro j hj
    have : j = 0 ∨ j = 1 := by omega
    rcases this with rfl | rfl
    · exact ⟨c1, h1⟩
    · exact ⟨c2, h2⟩)
  rw [show ([l1, l2] : List (List Nat)).flatten = l1 ++ l2 by simp] at this
  exact this

/-- What First tells: what was framed, how many bytes, which error. -/
def frsD (l : List Nat) : List Nat := (l.drop 8).take (w4 l)
def frsE (l : List Nat) : Nat :=
  if l.length < 8 then 3 else if 1048576 < w4 l then 2 else if l.length - 8 < w4 l then 3 else if sumN (l.take 4 ++ frsD l) ≠ w4 (l.drop 4) then 4 else 0
def frsB (l : List Nat) : List Nat := if frsE l = 0 then frsD l else []
def frsN (l : List Nat) : Nat := if frsE l = 0 then 8 + w4 l else 0
theorem frsD_length {l : List Nat} (h : ¬ l.length - 8 < w4 l) : (frsD l).length = w4 l := by
  unfold frsD; rw [List.length_take, List.length_drop]; omega

theorem frsD_sm {l : List Nat} (h : Sm8 l) : Sm8 (frsD l) := by
  unfold frsD
  exact (h.drop 8).take _
theorem own_framed {w w5 w6 : World} {l : List Nat} {v' : Value} {k : Nat} (hS : Sm8 l) (hB : frsB l = frsD l) (hD : (frsD l).length = k) (hb : Below w.heap.size w w5)
    (hown : w6.ownsRow w.heap.size 5 1 v' (0 + k) ([] ++ c8 (frsD l))) (hgrow : w5.grownBy w6 (Value.slice none 0 0).ownBlock) : OW w6 w.heap.size v' (frsB l) ∧ Below w.heap.size w w6 := by
  refine ⟨⟨?_, ?_⟩, hb.grown hgrow hb.size (fun k hk => by cases hk)⟩
  · rw [hB]; exact frsD_sm hS
  · rw [hB, hD]
    rw [Nat.zero_add, List.nil_append] at hown
    exact hown

/-- The answer First gives. -/
def FA (w : World) (l : List Nat) (e : Ending) (w' : World) : Prop :=
  ∃ v', e = .returned (.tuple #[v', .int .i64 (frsN l : Nat), .int .i64 (frsE l : Nat)]) ∧ OW w' w.heap.size v' (frsB l) ∧ Below w.heap.size w w'
theorem OW_nil (w : World) (B : Nat) : OW w B (.slice none 0 0) [] := ⟨fun d hd => (by cases hd), World.ownsRow_nil w B _ _⟩
theorem FA_bad {w w' : World} {l : List Nat} {k : Nat} (h : frsE l = k) (hk : k ≠ 0) (hb : Below w.heap.size w w') : FA w l (.returned (.tuple #[.slice none 0 0, .int .i64 0, .int .i64 (k : Nat)])) w' := by
  have h2 : ¬ frsE l = 0 := by omega
  refine ⟨.slice none 0 0, ?_, ?_, hb⟩
  · unfold frsN; rw [if_neg h2, h]; rfl
  · unfold frsB; rw [if_neg h2]; exact OW_nil _ _

theorem first_short (v : Value) (l : List Nat) (w : World) (h : BR w v l) (hl : l.length < 8) : Calls Tryd.prog 35 #[v] w (FA w l) := by
  have HE : Hid (frsE l = 3) := by show _ = _; unfold frsE; rw [if_pos hl]
  obtain ⟨_, a, cap, rfl, h3, h4, _⟩ := h
  have hi : (l.length : Int) < 8 := by omega
  generalize l.length = n at *
  go_enter Tryd.func35, Tryd.ntmps35
  go_wp2
  go_ret3
  exact FA_bad HE.out (by decide) (Below.refl _ _)

set_option maxRecDepth 100000 in
set_option maxHeartbeats 3200000 in
theorem first_ok (l : List Nat) (w : World) (b o o2 n cap k sm : Nat) (h4 : cap ≤ 2 ^ 63 - 1) (h3 : n ≤ cap) (hl : ¬ n < 8) (hwl : k < 4294967296)
    (hw : Calls Tryd.prog 55 #[.slice (some ⟨b, o, none⟩) n cap] w fun e w' => e = .returned (.int .u32 (k : Int)) ∧ ∃ q, w' = w.drewN q)
    (HK : Hid (k = w4 l)) (HS : Hid (Sm8 l)) (c1 : ¬ 1048576 < k) (c2 : ¬ n - 8 < k)
    (hsl : (if cap = 8 then some (⟨b, o, none⟩ : Addr) else some ⟨b, o + 8, none⟩) = some ⟨b, o2, none⟩)
    (HD : Hid (BR w (.slice (some ⟨b, o2, none⟩) k (cap - 8)) (frsD l))) (HDl : Hid ((frsD l).length = k))
    (HBm : Hid (∀ m, Below w.heap.size w ((w.drewN m).alloc (.cells #[.slice (some ⟨b, o, none⟩) 4 cap, .slice (some ⟨b, o2, none⟩) k (cap - 8)] 31))))
    (HSum : Hid (∀ m, Calls Tryd.prog 51 #[.slice (some ⟨w.heap.size, 0, none⟩) 2 2] ((w.drewN m).alloc (.cells #[.slice (some ⟨b, o, none⟩) 4 cap, .slice (some ⟨b, o2, none⟩) k (cap - 8)] 31)) fun e w' => e = .returned (.int .u32 (sm : Int)) ∧ w' = (w.drewN m).alloc (.cells #[.slice (some ⟨b, o, none⟩) 4 cap, .slice (some ⟨b, o2, none⟩) k (cap - 8)] 31)))
    (HWrd : Hid (∀ m, Calls Tryd.prog 55 #[.slice (some ⟨b, o + 4, none⟩) (n - 4) (cap - 4)] ((w.drewN m).alloc (.cells #[.slice (some ⟨b, o, none⟩) 4 cap, .slice (some ⟨b, o2, none⟩) k (cap - 8)] 31)) fun e w' => e = .returned (.int .u32 (sm : Int)) ∧ ∃ q, w' = ((w.drewN m).alloc (.cells #[.slice (some ⟨b, o, none⟩) 4 cap, .slice (some ⟨b, o2, none⟩) k (cap - 8)] 31)).drewN q))
    (HE : Hid (frsE l = 0)) : Calls Tryd.prog 35 #[.slice (some ⟨b, o, none⟩) n cap] w (FA w l) := by
  have hi : ¬ (n : Int) < 8 := by omega
  have c1i : ¬ (1048576 : Int) < (k : Int) := by omega
  have hn8 : (8 : Int) ≤ (n : Int) := by omega
  have hn9 : (8 : Int) ≤ (cap : Int) := by omega
  have c2i : ¬ (n : Int) - 8 < (k : Int) := by omega
  have c2j : (k : Int) ≤ (cap : Int) - 8 := by omega
  have c2k : k ≤ cap - 8 := by omega
  have c2l : ¬ n - 8 < k := c2
  have k4 : ¬ cap = 4 := by omega
  have k5 : (4 : Int) ≤ (cap : Int) := by omega
  have k6 : (4 : Int) ≤ (n : Int) := by omega
  have k7 : (0 : Int) ≤ (k : Int) := by omega
  have HE0 : Hid (frsE l = 0) := by show _ = _; rw [HE.out]
  have HB0 : Hid (frsB l = frsD l ∧ frsN l = 8 + k) := by
    unfold frsB frsN
    rw [if_pos HE0.out, if_pos HE0.out, ← HK.out]; exact ⟨rfl, rfl⟩
  have hsc : ((sm : Int) != (sm : Int)) = false := by simp
  obtain ⟨i0, hi0, hz0, hz1, hz2⟩ := info_parts info8
  go_enter Tryd.func35, Tryd.ntmps35
  go_wp2_with fail
  refine hw.mono ?_
  rintro e w1 ⟨rfl, q, rfl⟩
  go_wp2_with fail
  go_region_held3 (fun w' => True) (trivial)
    (first
      | (go_at_call 51; refine (HSum.out _).mono ?_; rintro e w2 ⟨rfl, rfl⟩)
      | (go_at_call 55; refine (HWrd.out _).mono ?_; rintro e w3 ⟨rfl, q3, rfl⟩))
  have hb5 := below_drewN (HBm.out (q + 1)) q3
  generalize ((w.drewN (q + 1)).alloc (.cells #[.slice (some ⟨b, o, none⟩) 4 cap, .slice (some ⟨b, o2, none⟩) k (cap - 8)] 31)).drewN q3 = w5 at *
  have z5 := hb5.size
  have hD5 := HD.out.below hb5 (Nat.le_refl _)
  have HC : Hid (∀ j u, (c8 (frsD l))[j]? = some u → w5.cell? ((⟨b, o2, none⟩ : Addr).add j) = some u) := by
    intro j u hu
    obtain ⟨e1, rfl⟩ := c8_at hu
    obtain ⟨y, e, hy, _⟩ := hD5.cell e1
    obtain rfl := Option.some.inj e
    exact hy
  have ho := c8_one (frsD l)
  have hd : (c8 (frsD l)).length = k * 1 := by rw [c8_length, HDl.out]; omega
  have HB5 : Hid (Below w.heap.size w w5) := hb5
  have hnil : w5.ownsRow w.heap.size 5 1 (.slice none 0 0) 0 [] := World.ownsRow_nil _ _ _ _
  generalize cap - 8 = C8 at *
  clear hb5 hD5
  go_wp2_with (at_builtin; refine wpList_append_own _ rfl _ _ 31 rfl w.heap.size 5 i0 (.int .u8 0) 1 1 Tryd.underlying31 hi0 hz0 hz1 hz2 rfl (by decide) (.slice none 0 0) 0 [] rfl hnil ⟨b, o2, none⟩ k C8 (c8 (frsD l)) rfl hd HC.out ho (by unfold maxLen; omega) (by omega) (by omega) ?_; intro v' w6 hown hgrow hiff; clear hiff)
  have HQ : Hid (OW w6 w.heap.size v' (frsB l) ∧ Below w.heap.size w w6) := own_framed HS.out HB0.out.1 HDl.out HB5.out hown hgrow
  have HNn : Hid (frsN l = 8 + k) := HB0.out.2
  clear hown hgrow
  go_wp2
  go_ret3
  refine ⟨_, ?_, HQ.out⟩
  have e8 : ((8 + k : Nat) : Int) = 8 + (k : Int) := by omega
  rw [HE0.out, HNn.out, e8]
  rfl

set_option maxRecDepth 100000 in
set_option maxHeartbeats 3200000 in
set_option linter.unusedVariables false in
theorem first_form (l : List Nat) (w : World) (b o o2 n cap k sm wd : Nat) (h4 : cap ≤ 2 ^ 63 - 1) (h3 : n ≤ cap) (hl : ¬ n < 8) (hwl : k < 4294967296)
    (hw : Calls Tryd.prog 55 #[.slice (some ⟨b, o, none⟩) n cap] w fun e w' => e = .returned (.int .u32 (k : Int)) ∧ ∃ q, w' = w.drewN q)
    (HK : Hid (k = w4 l)) (HS : Hid (Sm8 l)) (c1 : ¬ 1048576 < k) (c2 : ¬ n - 8 < k)
    (hsl : (if cap = 8 then some (⟨b, o, none⟩ : Addr) else some ⟨b, o + 8, none⟩) = some ⟨b, o2, none⟩)
    (HD : Hid (BR w (.slice (some ⟨b, o2, none⟩) k (cap - 8)) (frsD l))) (HDl : Hid ((frsD l).length = k))
    (HBm : Hid (∀ m, Below w.heap.size w ((w.drewN m).alloc (.cells #[.slice (some ⟨b, o, none⟩) 4 cap, .slice (some ⟨b, o2, none⟩) k (cap - 8)] 31))))
    (HSum : Hid (∀ m, Calls Tryd.prog 51 #[.slice (some ⟨w.heap.size, 0, none⟩) 2 2] ((w.drewN m).alloc (.cells #[.slice (some ⟨b, o, none⟩) 4 cap, .slice (some ⟨b, o2, none⟩) k (cap - 8)] 31)) fun e w' => e = .returned (.int .u32 (sm : Int)) ∧ w' = (w.drewN m).alloc (.cells #[.slice (some ⟨b, o, none⟩) 4 cap, .slice (some ⟨b, o2, none⟩) k (cap - 8)] 31)))
    (HWrd : Hid (∀ m, Calls Tryd.prog 55 #[.slice (some ⟨b, o + 4, none⟩) (n - 4) (cap - 4)] ((w.drewN m).alloc (.cells #[.slice (some ⟨b, o, none⟩) 4 cap, .slice (some ⟨b, o2, none⟩) k (cap - 8)] 31)) fun e w' => e = .returned (.int .u32 (wd : Int)) ∧ ∃ q, w' = ((w.drewN m).alloc (.cells #[.slice (some ⟨b, o, none⟩) 4 cap, .slice (some ⟨b, o2, none⟩) k (cap - 8)] 31)).drewN q))
    (HE : Hid (frsE l = 4)) (c3 : ¬ sm = wd) : Calls Tryd.prog 35 #[.slice (some ⟨b, o, none⟩) n cap] w (FA w l) := by
  have hi : ¬ (n : Int) < 8 := by omega
  have c1i : ¬ (1048576 : Int) < (k : Int) := by omega
  have hn8 : (8 : Int) ≤ (n : Int) := by omega
  have hn9 : (8 : Int) ≤ (cap : Int) := by omega
  have c2i : ¬ (n : Int) - 8 < (k : Int) := by omega
  have c2j : (k : Int) ≤ (cap : Int) - 8 := by omega
  have c2k : k ≤ cap - 8 := by omega
  have c2l : ¬ n - 8 < k := c2
  have k4 : ¬ cap = 4 := by omega
  have k5 : (4 : Int) ≤ (cap : Int) := by omega
  have k6 : (4 : Int) ≤ (n : Int) := by omega
  have k7 : (0 : Int) ≤ (k : Int) := by omega
  have HE2 : Hid (frsE l = 4) := by show _ = _; rw [HE.out]
  have c3b : ((sm : Int) == (wd : Int)) = false := by rw [beq_eq_false_iff_ne]; omega
  have c3c : ((sm : Int) != (wd : Int)) = true := by simp [bne, c3b]
  go_enter Tryd.func35, Tryd.ntmps35
  go_wp2_with fail
  refine hw.mono ?_
  rintro e w1 ⟨rfl, q, rfl⟩
  go_wp2_with fail
  go_region_held3 (fun w' => True) (trivial)
    (first
      | (go_at_call 51; refine (HSum.out _).mono ?_; rintro e w2 ⟨rfl, rfl⟩)
      | (go_at_call 55; refine (HWrd.out _).mono ?_; rintro e w3 ⟨rfl, q3, rfl⟩))
  go_wp2
  go_ret3
  exact FA_bad HE2.out (by decide) (below_drewN (HBm.out _) q3)

set_option maxRecDepth 100000 in
set_option maxHeartbeats 3200000 in
theorem first_any (v : Value) (l : List Nat) (w : World) (h : BR w v l) (hT : Tb w) (h0 : 0 < w.heap.size) : Calls Tryd.prog 35 #[v] w (FA w l) := by
  by_cases hl : l.length < 8
  · exact first_short v l w h hl
  · have HR : Hid (BR w v l) := h
    have HT : Hid (Tb w) := hT
    have HS : Hid (Sm8 l) := h.1
    obtain ⟨s1, a, cap, rfl, h3, h4, h5⟩ := h
    clear h5
    obtain ⟨b, o, rfl, hbl, hc⟩ := HR.out.lies (by omega)
    unfold maxLen at h4
    have hwl := w4_lt s1
    have HE : Hid (frsE l = if 1048576 < w4 l then 2 else if l.length - 8 < w4 l then 3 else if sumN (l.take 4 ++ frsD l) ≠ w4 (l.drop 4) then 4 else 0) := by show _ = _; unfold frsE; rw [if_neg hl]
    have hw := word_any _ l w HR.out (by omega)
    obtain ⟨k, hk⟩ : ∃ k, k = w4 l := ⟨_, rfl⟩
    have HK : Hid (k = w4 l) := hk
    rw [← hk] at hw HE hwl
    obtain ⟨n, hn⟩ : ∃ n, n = l.length := ⟨_, rfl⟩
    have HN : Hid (n = l.length) := hn
    rw [← hn] at h3 hl hw HE HR ⊢
    clear s1 hT hc hk hn
    have hi : ¬ (n : Int) < 8 := by omega
    by_cases c1 : 1048576 < k
    · have HE2 : Hid (frsE l = 2) := by show _ = _; rw [HE.out, if_pos c1]
      have c1i : (1048576 : Int) < (k : Int) := by omega
      go_enter Tryd.func35, Tryd.ntmps35
      go_wp2_with fail
      refine hw.mono ?_
      rintro e w1 ⟨rfl, q, rfl⟩
      go_wp2
      go_ret3
      exact FA_bad HE2.out (by decide) (below_drewN (Below.refl _ _) q)
    · have c1i : ¬ (1048576 : Int) < (k : Int) := by omega
      have hn8 : (8 : Int) ≤ (n : Int) := by omega
      have hn9 : (8 : Int) ≤ (cap : Int) := by omega
      obtain ⟨o2, ho2⟩ : ∃ o2, (cap = 8 ∧ o2 = o) ∨ (¬ cap = 8 ∧ o2 = o + 8) := by
        by_cases c : cap = 8
        · exact ⟨o, Or.inl ⟨c, rfl⟩⟩
        · exact ⟨o + 8, Or.inr ⟨c, rfl⟩⟩
      have HRest : Hid (BR w (.slice (some ⟨b, o2, none⟩) (n - 8) (cap - 8)) (l.drop 8)) := by
        have := HR.out.cut (lo := 8) (hi := n) (by omega) (by have := HN.out; omega)
        rw [HN.out, List.take_length, ← HN.out] at this
        unfold sliced at this
        rcases ho2 with ⟨e, rfl⟩ | ⟨e, rfl⟩
        · rw [if_pos e] at this; exact this
        · rw [if_neg e] at this; exact this
      have hsl : (if cap = 8 then some (⟨b, o, none⟩ : Addr) else some ⟨b, o + 8, none⟩) = some ⟨b, o2, none⟩ := by
        rcases ho2 with ⟨e, rfl⟩ | ⟨e, rfl⟩
        · rw [if_pos e]
        · rw [if_neg e]
      clear ho2
      by_cases c2 : n - 8 < k
      · have HE2 : Hid (frsE l = 3) := by show _ = _; rw [HE.out, if_neg c1, if_pos c2]
        have c2i : (n : Int) - 8 < (k : Int) := by omega
        go_enter Tryd.func35, Tryd.ntmps35
        go_wp2_with fail
        refine hw.mono ?_
        rintro e w1 ⟨rfl, q, rfl⟩
        go_wp2
        go_ret3
        exact FA_bad HE2.out (by decide) (below_drewN (Below.refl _ _) q)
      · have HD : Hid (BR w (.slice (some ⟨b, o2, none⟩) k (cap - 8)) (frsD l)) := by
          have := HRest.out.head (hi := k) (by rw [List.length_drop]; have := HN.out; omega)
          unfold frsD; rw [← HK.out]; exact this
        have HH : Hid (BR w (.slice (some ⟨b, o, none⟩) 4 cap) (l.take 4)) := HR.out.head (by have := HN.out; omega)
        have HW : Hid (BR w (.slice (some ⟨b, o + 4, none⟩) (n - 4) (cap - 4)) (l.drop 4)) := by
          have := HR.out.cut (lo := 4) (hi := n) (by omega) (by have := HN.out; omega)
          rw [HN.out, List.take_length, ← HN.out] at this
          unfold sliced at this
          rw [if_neg (by omega)] at this
          exact this
        have HLn : Hid (4 ≤ (l.drop 4).length) := by show _ ≤ _; rw [List.length_drop]; have := HN.out; omega
        have HDl : Hid ((frsD l).length = k) := by have := frsD_length (l := l) (by have := HN.out; have := HK.out; omega); rw [← HK.out] at this; exact this
        obtain ⟨sm, hsm⟩ : ∃ sm, sm = sumN (l.take 4 ++ frsD l) := ⟨_, rfl⟩
        obtain ⟨wd, hwd⟩ : ∃ wd, wd = w4 (l.drop 4) := ⟨_, rfl⟩
        rw [← hsm, ← hwd, if_neg c1, if_neg c2] at HE
        have HSM : Hid (sumN (l.take 4 ++ frsD l) = sm) := hsm.symm
        have HWD : Hid (w4 (l.drop 4) = wd) := hwd.symm
        have c2i : ¬ (n : Int) - 8 < (k : Int) := by omega
        have c2j : (k : Int) ≤ (cap : Int) - 8 := by omega
        have c2k : k ≤ cap - 8 := by omega
        have c2l : ¬ n - 8 < k := c2
        have k4 : ¬ cap = 4 := by omega
        have k5 : (4 : Int) ≤ (cap : Int) := by omega
        have k6 : (4 : Int) ≤ (n : Int) := by omega
        have k7 : (0 : Int) ≤ (k : Int) := by omega
        clear hsm hwd
        have HBm : Hid (∀ m, Below w.heap.size w ((w.drewN m).alloc (.cells #[.slice (some ⟨b, o, none⟩) 4 cap, .slice (some ⟨b, o2, none⟩) k (cap - 8)] 31))) := fun m => (below_drewN (Below.refl _ _) m).alloc (Nat.le_refl _) _
        have HSum : Hid (∀ m, Calls Tryd.prog 51 #[.slice (some ⟨w.heap.size, 0, none⟩) 2 2] ((w.drewN m).alloc (.cells #[.slice (some ⟨b, o, none⟩) 4 cap, .slice (some ⟨b, o2, none⟩) k (cap - 8)] 31)) fun e w' => e = .returned (.int .u32 (sm : Int)) ∧ w' = (w.drewN m).alloc (.cells #[.slice (some ⟨b, o, none⟩) 4 cap, .slice (some ⟨b, o2, none⟩) k (cap - 8)] 31)) := by
          intro m
          have := sumOf2 ((w.drewN m).alloc (.cells #[.slice (some ⟨b, o, none⟩) 4 cap, .slice (some ⟨b, o2, none⟩) k (cap - 8)] 31)) w.heap.size (.slice (some ⟨b, o, none⟩) 4 cap) (.slice (some ⟨b, o2, none⟩) k (cap - 8)) (l.take 4) (frsD l) (cells_at (w.drewN m) _ _ 0 _ rfl) (cells_at (w.drewN m) _ _ 1 _ rfl) (HH.out.below (HBm.out m) (Nat.le_refl _)) (HD.out.below (HBm.out m) (Nat.le_refl _)) (HT.out.below (HBm.out m) h0)
          rw [HSM.out] at this
          exact this
        have HWrd : Hid (∀ m, Calls Tryd.prog 55 #[.slice (some ⟨b, o + 4, none⟩) (n - 4) (cap - 4)] ((w.drewN m).alloc (.cells #[.slice (some ⟨b, o, none⟩) 4 cap, .slice (some ⟨b, o2, none⟩) k (cap - 8)] 31)) fun e w' => e = .returned (.int .u32 (wd : Int)) ∧ ∃ q, w' = ((w.drewN m).alloc (.cells #[.slice (some ⟨b, o, none⟩) 4 cap, .slice (some ⟨b, o2, none⟩) k (cap - 8)] 31)).drewN q) := by
          intro m
          have := word_any _ (l.drop 4) ((w.drewN m).alloc (.cells #[.slice (some ⟨b, o, none⟩) 4 cap, .slice (some ⟨b, o2, none⟩) k (cap - 8)] 31)) (HW.out.below (HBm.out m) (Nat.le_refl _)) HLn.out
          rw [HWD.out] at this
          exact this
        by_cases c3 : sm = wd
        · subst c3
          exact first_ok l w b o o2 n cap k sm h4 h3 hl hwl hw HK HS c1 c2 hsl HD HDl HBm HSum HWrd (by show _ = _; rw [HE.out, if_neg (by simp)])
        · exact first_form l w b o o2 n cap k sm wd h4 h3 hl hwl hw HK HS c1 c2 hsl HD HDl HBm HSum HWrd (by show _ = _; rw [HE.out, if_pos c3]) c3

end Go.Proofs.YtjngknnkffbnmaaDoor
