/-
  Numbers in four bytes: appendWord, word, the reference's Four.
-/
import Derived.Test.YtmjiaephmgngiaaDoorFrRef
import Derived.Deep.RegionHeld3
namespace Go.Proofs.YtmjiaephmgngiaaDoor
open Go.RowKit Crc

def be4 (n : Nat) : List Nat := [n / 16777216 % 256, n / 65536 % 256, n / 256 % 256, n % 256]
def w4 (l : List Nat) : Nat := l.getD 0 0 * 16777216 + l.getD 1 0 * 65536 + l.getD 2 0 * 256 + l.getD 3 0
theorem be4_sm (n : Nat) : Sm8 (be4 n) := by
  intro d hd
  unfold be4 at hd
  simp at hd
  omega
theorem w4_lt {l : List Nat} (h : Sm8 l) : w4 l < 4294967296 := by
  have := h.getD 0; have := h.getD 1; have := h.getD 2; have := h.getD 3
  unfold w4; omega
theorem w4_be4 {n : Nat} (h : n < 4294967296) (m : List Nat) : w4 (be4 n ++ m) = n := by
  unfold w4 be4
  simp
  omega

set_option maxHeartbeats 400000 in
theorem appendWord_any (v : Value) (l : List Nat) (n B : Nat) (w : World) (h : OW w B v l) (hB : B ≤ w.heap.size) (hn : n < 4294967296) (hl : l.length ≤ 1000000000) :
    Calls Tryd.prog 20 #[v, .int .u32 n] w fun e w' => ∃ v', e = .returned v' ∧ OW w' B v' (l ++ be4 n) ∧ Below B w w' := by
  obtain ⟨i0, hi0, hz0, hz1, hz2⟩ := info_parts info8
  obtain ⟨k, hk⟩ : ∃ k, k = l.length := ⟨_, rfl⟩
  have hown := h.2
  have HS : Hid (Sm8 l ∧ k = l.length) := ⟨h.1, hk⟩
  rw [← hk] at hown hl
  have q1 : (n : Int) / 16777216 = ((n / 16777216 % 256 : Nat) : Int) := by omega
  have q2 : (n : Int) / 65536 % 256 = ((n / 65536 % 256 : Nat) : Int) := by omega
  have q3 : (n : Int) / 256 % 256 = ((n / 256 % 256 : Nat) : Int) := by omega
  have q4 : (n : Int) % 256 = ((n % 256 : Nat) : Int) := by omega
  have HE : Hid (be4 n = [n / 16777216 % 256, n / 65536 % 256, n / 256 % 256, n % 256]) := rfl
  generalize n / 16777216 % 256 = a1 at *
  generalize n / 65536 % 256 = a2 at *
  generalize n / 256 % 256 = a3 at *
  generalize n % 256 = a4 at *
  have hown2 : (w.alloc (.cells #[.int .u8 (a1 : Int), .int .u8 (a2 : Int), .int .u8 (a3 : Int), .int .u8 (a4 : Int)] 5)).ownsRow B 5 1 v k (c8 l) := hown.alloc _
  have HB : Hid (Below B w (w.alloc (.cells #[.int .u8 (a1 : Int), .int .u8 (a2 : Int), .int .u8 (a3 : Int), .int .u8 (a4 : Int)] 5))) := (Below.refl _ _).alloc hB _
  clear h hown hk
  go_enter Tryd.func20, Tryd.ntmps20
  go_wp2_with (at_builtin; refine wpList_append_own _ rfl _ _ 22 rfl B 5 i0 (.int .u8 0) 1 1 Tryd.underlying22 hi0 hz0 hz1 hz2 rfl (by decide) v k (c8 l) rfl hown2 ⟨w.heap.size, 0, none⟩ 4 4 [.int .u8 (a1 : Int), .int .u8 (a2 : Int), .int .u8 (a3 : Int), .int .u8 (a4 : Int)] rfl rfl (World.news_of_block (cs := #[.int .u8 (a1 : Int), .int .u8 (a2 : Int), .int .u8 (a3 : Int), .int .u8 (a4 : Int)]) (t := 5) (fr := (0, 0)) (heap_alloc_new w _)) (by simp [Value.oneCell']) (by unfold maxLen; omega) (by omega) (by simp; omega) ?_)
  intro v' w1 hown1 hgrow _
  have HQ : Hid (OW w1 B v' (l ++ be4 n) ∧ Below B w w1) := by
    refine ⟨⟨HS.out.1.append (be4_sm n), ?_⟩, HB.out.grown hgrow (by simp; omega) (fun k hk => (hown2.lt k hk).1)⟩
    rw [c8_append, HE.out, List.length_append, ← HS.out.2]
    exact hown1
  clear hown1 hgrow
  go_wp2
  go_ret
  exact ⟨_, rfl, HQ.out⟩

set_option maxHeartbeats 400000 in
theorem four_any (n : Nat) (w : World) (hn : n < 4294967296) :
    Calls Tryd.prog 22 #[.int .u32 n] w fun e w' => ∃ v', e = .returned v' ∧ OW w' w.heap.size v' (be4 n) ∧ Below w.heap.size w w' := by
  have q1 : (n : Int) / 16777216 = ((n / 16777216 % 256 : Nat) : Int) := by omega
  have q2 : bits .and .u32 ((n : Int) / 65536) 255 = ((n / 65536 % 256 : Nat) : Int) := by
    rw [show (n : Int) / 65536 = ((n / 65536 : Nat) : Int) by omega, show (255 : Int) = ((255 : Nat) : Int) from rfl, u32_and_nat _ 255 (by omega) (by decide), show (255 : Nat) = 2 ^ 8 - 1 from rfl, Nat.and_two_pow_sub_one_eq_mod]
  have q3 : bits .and .u32 ((n : Int) / 256) 255 = ((n / 256 % 256 : Nat) : Int) := by
    rw [show (n : Int) / 256 = ((n / 256 : Nat) : Int) by omega, show (255 : Int) = ((255 : Nat) : Int) from rfl, u32_and_nat _ 255 (by omega) (by decide), show (255 : Nat) = 2 ^ 8 - 1 from rfl, Nat.and_two_pow_sub_one_eq_mod]
  have q4 : bits .and .u32 (n : Int) 255 = ((n % 256 : Nat) : Int) := by
    rw [show (255 : Int) = ((255 : Nat) : Int) from rfl, u32_and_nat _ 255 (by omega) (by decide), show (255 : Nat) = 2 ^ 8 - 1 from rfl, Nat.and_two_pow_sub_one_eq_mod]
  have HE : Hid (be4 n = [n / 16777216 % 256, n / 65536 % 256, n / 256 % 256, n % 256]) := rfl
  have b2 : n / 65536 % 256 < 256 := by omega
  have b3 : n / 256 % 256 < 256 := by omega
  have b4 : n % 256 < 256 := by omega
  generalize n / 16777216 % 256 = a1 at *
  generalize n / 65536 % 256 = a2 at *
  generalize n / 256 % 256 = a3 at *
  generalize n % 256 = a4 at *
  have HQ : Hid (OW (w.alloc (.cells #[.int .u8 (a1 : Int), .int .u8 (a2 : Int), .int .u8 (a3 : Int), .int .u8 (a4 : Int)] 5)) w.heap.size (.slice (some ⟨w.heap.size, 0, none⟩) 4 4) (be4 n) ∧ Below w.heap.size w (w.alloc (.cells #[.int .u8 (a1 : Int), .int .u8 (a2 : Int), .int .u8 (a3 : Int), .int .u8 (a4 : Int)] 5))) := by
    refine ⟨⟨be4_sm n, ?_⟩, (Below.refl _ _).alloc (Nat.le_refl _) _⟩
    rw [HE.out]
    exact ⟨rfl, Or.inr ⟨w.heap.size, 4, _, rfl, Nat.le_refl _, heap_alloc_new w _, Nat.le_refl _, by decide, rfl, rfl⟩⟩
  go_enter Tryd.func22, Tryd.ntmps22
  go_wp2
  go_ret
  exact ⟨_, rfl, HQ.out⟩

theorem or_word (a b c d : Nat) (hb : b < 256) (hc : c < 256) (hd : d < 256) :
    a * 16777216 ||| b * 65536 ||| c * 256 ||| d = a * 16777216 + b * 65536 + c * 256 + d := by
  have e1 : a * 16777216 ||| b * 65536 = a * 16777216 + b * 65536 := by
    rw [show a * 16777216 = 2 ^ 24 * a by omega, ← Nat.two_pow_add_eq_or_of_lt (show b * 65536 < 2 ^ 24 by omega)]
  have e2 : (a * 16777216 + b * 65536) ||| c * 256 = a * 16777216 + b * 65536 + c * 256 := by
    rw [show a * 16777216 + b * 65536 = 2 ^ 16 * (a * 256 + b) by omega, ← Nat.two_pow_add_eq_or_of_lt (show c * 256 < 2 ^ 16 by omega)]
  have e3 : (a * 16777216 + b * 65536 + c * 256) ||| d = a * 16777216 + b * 65536 + c * 256 + d := by
    rw [show a * 16777216 + b * 65536 + c * 256 = 2 ^ 8 * (a * 65536 + b * 256 + c) by omega, ← Nat.two_pow_add_eq_or_of_lt (show d < 2 ^ 8 by omega)]
  rw [e1, e2, e3]

set_option maxHeartbeats 400000 in
theorem word_any (v : Value) (l : List Nat) (w : World) (h : BR w v l) (hl : 4 ≤ l.length) :
    Calls Tryd.prog 21 #[v] w fun e w' => e = .returned (.int .u32 (w4 l : Nat)) ∧ ∃ q, w' = w.drewN q := by
  obtain ⟨_, a, cap, rfl, _, _, _⟩ := id h
  obtain ⟨b, o, rfl, _, hc⟩ := h.lies (by omega)
  have c0 := hc 0 (by omega)
  have c1 := hc 1 (by omega)
  have c2 := hc 2 (by omega)
  have c3 := hc 3 (by omega)
  have d0 := h.1.getD 0
  have d1 := h.1.getD 1
  have d2 := h.1.getD 2
  have d3 := h.1.getD 3
  rw [Nat.add_zero] at c0
  clear hc
  have HW : Hid (w4 l = l.getD 0 0 * 16777216 + l.getD 1 0 * 65536 + l.getD 2 0 * 256 + l.getD 3 0) := rfl
  generalize l.getD 0 0 = y0 at *
  generalize l.getD 1 0 = y1 at *
  generalize l.getD 2 0 = y2 at *
  generalize l.getD 3 0 = y3 at *
  have o1 := u32_or_nat (y0 * 16777216) (y1 * 65536) (by omega) (by omega)
  have l1 : y0 * 16777216 ||| y1 * 65536 < 2 ^ 32 := Nat.or_lt_two_pow (show y0 * 16777216 < 2 ^ 32 by omega) (by omega)
  have o2 := u32_or_nat (y0 * 16777216 ||| y1 * 65536) (y2 * 256) l1 (by omega)
  have l2 : y0 * 16777216 ||| y1 * 65536 ||| y2 * 256 < 2 ^ 32 := Nat.or_lt_two_pow l1 (by omega)
  have o3 := u32_or_nat (y0 * 16777216 ||| y1 * 65536 ||| y2 * 256) y3 l2 (by omega)
  rw [or_word y0 y1 y2 y3 d1 d2 d3, ← HW.out] at o3
  generalize y0 * 16777216 ||| y1 * 65536 ||| y2 * 256 = z2 at *
  generalize y0 * 16777216 ||| y1 * 65536 = z1 at *
  have p0 : (y0 : Int) * 16777216 % 4294967296 = (y0 : Int) * 16777216 := by omega
  have p1 : (y1 : Int) * 65536 % 4294967296 = (y1 : Int) * 65536 := by omega
  have p2 : (y2 : Int) * 256 % 4294967296 = (y2 : Int) * 256 := by omega
  rw [Int.natCast_mul, Int.natCast_mul] at o1
  rw [Int.natCast_mul] at o2
  replace o1 : bits .or .u32 ((y0 : Int) * 16777216) ((y1 : Int) * 65536) = (z1 : Int) := o1
  replace o2 : bits .or .u32 (z1 : Int) ((y2 : Int) * 256) = (z2 : Int) := o2
  generalize w4 l = r at *
  obtain ⟨n, hn⟩ : ∃ n, n = l.length := ⟨_, rfl⟩
  rw [← hn] at hl ⊢
  have k0 : (0 : Int) < (n : Int) := by omega
  have k00 : 0 < n := by omega
  have k1 : (1 : Int) < (n : Int) := by omega
  have k2 : (2 : Int) < (n : Int) := by omega
  have k3 : (3 : Int) < (n : Int) := by omega
  clear h HW hn
  go_enter Tryd.func21, Tryd.ntmps21
  go_wp2_with fail
  go_region_held3 (fun w' => w'.cell? ⟨b, o, none⟩ = some (.int .u8 (y0 : Int)) ∧ w'.cell? ⟨b, o + 1, none⟩ = some (.int .u8 (y1 : Int)) ∧ w'.cell? ⟨b, o + 2, none⟩ = some (.int .u8 (y2 : Int)) ∧ w'.cell? ⟨b, o + 3, none⟩ = some (.int .u8 (y3 : Int))) (go_keep) (fail)
  go_wp2
  go_ret
  have v0 : IntKind.u32.wrap (y0 : Int) = (y0 : Int) := by rw [IntKind.wrap_u32]; omega
  have v1 : IntKind.u32.wrap (y1 : Int) = (y1 : Int) := by rw [IntKind.wrap_u32]; omega
  have v2 : IntKind.u32.wrap (y2 : Int) = (y2 : Int) := by rw [IntKind.wrap_u32]; omega
  have v3 : IntKind.u32.wrap (y3 : Int) = (y3 : Int) := by rw [IntKind.wrap_u32]; omega
  have u0 : IntKind.u32.wrap ((y0 : Int) * 16777216) = (y0 : Int) * 16777216 := by rw [IntKind.wrap_u32]; omega
  have u1 : IntKind.u32.wrap ((y1 : Int) * 65536) = (y1 : Int) * 65536 := by rw [IntKind.wrap_u32]; omega
  have u2 : IntKind.u32.wrap ((y2 : Int) * 256) = (y2 : Int) * 256 := by rw [IntKind.wrap_u32]; omega
  refine ⟨?_, 1, rfl⟩
  show Ending.returned (Value.int .u32 _) = _
  rw [v0, v1, v2, v3, u0, u1, u2, o1, o2, o3]

end Go.Proofs.YtmjiaephmgngiaaDoor
