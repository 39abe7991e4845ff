/-
  The sums of bytes: the landed sumOf and Sum, the reference's Sum, and lives, walked.
-/
import Derived.Test.YtjngknnkffbnmaaDoorFrMem
namespace Go.Proofs.YtjngknnkffbnmaaDoor
set_option maxRecDepth 100000
open Go.RowKit Crc

/-- The table lies in block 0. -/
def Tb (w : World) : Prop := ∀ r, r < 16 → w.cell? ⟨0, r, none⟩ = some (.int .u32 (tab.getD r 0 : Nat))
theorem Tb.below {w w' : World} {B : Nat} (h : Tb w) (hg : Below B w w') (hB : 0 < B) : Tb w' := fun r hr => (hg.cell hB).trans (h r hr)

theorem flat_take {ls : List (List Nat)} {j : Nat} (h : j < ls.length) : (ls.take (j + 1)).flatten = (ls.take j).flatten ++ ls.getD j [] := by
  rw [List.take_add_one, List.getElem?_eq_getElem h, List.flatten_append, List.getD_eq_getElem?_getD, List.getElem?_eq_getElem h]; simp
theorem sm_flat {ls : List (List Nat)} (h : ∀ l ∈ ls, Sm8 l) : Sm8 ls.flatten := by
  intro d hd
  obtain ⟨l, hl, hd⟩ := List.mem_flatten.1 hd
  exact h l hl d hd

theorem xor_i (a b : Nat) (ha : a < 4294967296) (hb : b < 4294967296) : bits .xor .u32 (a : Int) (b : Int) = ((a ^^^ b : Nat) : Int) := u32_xor_nat a b ha hb
theorem and15_i (a : Nat) (ha : a < 4294967296) : bits .and .u32 (a : Int) 15 = ((a % 16 : Nat) : Int) := by
  rw [show (15 : Int) = ((15 : Nat) : Int) from rfl, u32_and_nat a 15 ha (by decide)]
  rw [show (15 : Nat) = 2 ^ 4 - 1 from rfl, Nat.and_two_pow_sub_one_eq_mod]

set_option maxHeartbeats 1000000 in
theorem sumOf_any (g n : Nat) (vs : List Value) (ls : List (List Nat)) (w : World) (hn : n = ls.length) (hn2 : n ≤ 2) (hT : Tb w)
    (hc : ∀ j, j < n → w.cell? ⟨g, j, none⟩ = some (vs.getD j (.bool false)) ∧ BR w (vs.getD j (.bool false)) (ls.getD j [])) :
    Calls Tryd.prog 51 #[.slice (some ⟨g, 0, none⟩) n n] w fun e w' => e = .returned (.int .u32 (sumN ls.flatten : Nat)) ∧ w' = w := by
  have HC : Hid (∀ j, j < n → w.cell? ⟨g, j, none⟩ = some (vs.getD j (.bool false)) ∧ BR w (vs.getD j (.bool false)) (ls.getD j [])) := hc
  have HT : Hid (Tb w) := hT
  have HL : Hid (n = ls.length) := hn
  clear hc hT hn
  go_enter Tryd.func51, Tryd.ntmps51
  go_wp2_with fail
  go_loop [3, 10] (fun t3 t10 => ∃ j c : Nat, j ≤ n ∧ c < 4294967296 ∧ t10 = .int .i64 j ∧ t3 = .int .u32 c ∧ Hid (c = crcL 4294967295 (ls.take j).flatten)) (fun _ t10 => n - (intOf t10).toNat)
  case atStart => exact ⟨0, 4294967295, Nat.zero_le _, by decide, rfl, rfl, rfl⟩
  case round =>
    obtain ⟨j, c, hj, hcl, rfl, rfl, HI⟩ := hrel
    by_cases hlt : j < n
    · obtain ⟨hcell, hbr⟩ := HC.out j hlt
      have HF := flat_take (ls := ls) (j := j) (by have := HL.out; omega)
      generalize vs.getD j (.bool false) = v at hcell hbr
      generalize ls.getD j [] = l at hbr HF
      obtain ⟨h1, a, cap, rfl, h3, h4, h5⟩ := hbr
      unfold maxLen at h4
      have hlen : l.length ≤ 9223372036854775807 := by omega
      have HS : Hid (Sm8 l) := h1
      have HX : Hid ((a = none ∧ cap = 0) ∨ ∃ x, a = some x ∧ ∀ i, i < l.length → w.cell? (x.add i) = some (.int .u8 (l.getD i 0 : Nat))) := h5
      have HFl : Hid ((ls.take (j + 1)).flatten = (ls.take j).flatten ++ l) := HF
      have HLen : Hid (l.length ≤ cap) := h3
      obtain ⟨m, hm⟩ : ∃ m, m = l.length := ⟨_, rfl⟩
      have HM : Hid (m = l.length) := hm
      rw [← hm] at hlen hcell
      clear h1 h3 h4 h5 HF hm
      go_wp2_with fail
      go_loop [3, 16] (fun t3 t16 => ∃ i c : Nat, i ≤ m ∧ c < 4294967296 ∧ t16 = .int .i64 i ∧ t3 = .int .u32 c ∧ Hid (c = crcL 4294967295 ((ls.take j).flatten ++ l.take i))) (fun _ t16 => m - (intOf t16).toNat)
      case atStart => exact ⟨0, c, Nat.zero_le _, hcl, rfl, rfl, by have := HI.out; rw [List.take_zero, List.append_nil]; exact this⟩
      case round =>
        obtain ⟨i, c, hi, hcl, rfl, rfl, HI⟩ := hrel
        by_cases hil : i < m
        · rcases HX.out with ⟨rfl, rfl⟩ | ⟨x, rfl, hcc⟩
          · exfalso; have := HLen.out; have := HM.out; omega
          · have hce := hcc i (by have := HM.out; omega)
            have hd := HS.out.getD i
            have HD : Hid (crcL 4294967295 ((ls.take j).flatten ++ l.take (i + 1)) = crcB c (l.getD i 0)) := by
              have e := HI.out
              show _ = _
              rw [crcL_append] at e ⊢
              rw [crcL_take (by have := HM.out; omega), ← e]
            generalize l.getD i 0 = d at hce hd HD
            have t1 := xor_i c d hcl (by omega)
            have l1 : c ^^^ d < 4294967296 := Nat.xor_lt_two_pow (n := 32) hcl (by omega)
            obtain ⟨c1, e1⟩ : ∃ c1, c1 = c ^^^ d := ⟨_, rfl⟩
            rw [← e1] at t1 l1
            have t2 := and15_i c1 l1
            have q1 := HT.out (c1 % 16) (Nat.mod_lt _ (by decide))
            have y1 := tab_lt (c1 % 16) (Nat.mod_lt _ (by decide))
            obtain ⟨r1, er1⟩ : ∃ r1, r1 = c1 % 16 := ⟨_, rfl⟩
            obtain ⟨x1, ex1⟩ : ∃ x1, x1 = tab.getD (c1 % 16) 0 := ⟨_, rfl⟩
            rw [← ex1] at q1 y1
            have t3 := xor_i (c1 / 16) x1 (by omega) y1
            have l2 : c1 / 16 ^^^ x1 < 4294967296 := Nat.xor_lt_two_pow (n := 32) (show c1 / 16 < 2 ^ 32 by omega) y1
            obtain ⟨c2, e2⟩ : ∃ c2, c2 = c1 / 16 ^^^ x1 := ⟨_, rfl⟩
            rw [← e2] at t3 l2
            have t4 := and15_i c2 l2
            have q2 := HT.out (c2 % 16) (Nat.mod_lt _ (by decide))
            have y2 := tab_lt (c2 % 16) (Nat.mod_lt _ (by decide))
            obtain ⟨r2, er2⟩ : ∃ r2, r2 = c2 % 16 := ⟨_, rfl⟩
            obtain ⟨x2, ex2⟩ : ∃ x2, x2 = tab.getD (c2 % 16) 0 := ⟨_, rfl⟩
            rw [← ex2] at q2 y2
            have t5 := xor_i (c2 / 16) x2 (by omega) y2
            have l3 : c2 / 16 ^^^ x2 < 4294967296 := Nat.xor_lt_two_pow (n := 32) (show c2 / 16 < 2 ^ 32 by omega) y2
            obtain ⟨c3, e3⟩ : ∃ c3, c3 = c2 / 16 ^^^ x2 := ⟨_, rfl⟩
            rw [← e3] at t5 l3
            have HE : Hid (c3 = crcL 4294967295 ((ls.take j).flatten ++ l.take (i + 1))) := by
              rw [HD.out]; exact crcB_fast (c1 := c1) (c2 := c2) e1 (by rw [e2, ex1]) (by rw [e3, ex2])
            rw [← er1] at t2 q1
            rw [← er2] at t4 q2
            have b1 : r1 < 16 := by rw [er1]; exact Nat.mod_lt _ (by decide)
            have b2 : r2 < 16 := by rw [er2]; exact Nat.mod_lt _ (by decide)
            rw [Int.natCast_ediv] at t3 t5
            replace t3 : bits .xor .u32 ((c1 : Int) / 16) (x1 : Int) = (c2 : Int) := t3
            replace t5 : bits .xor .u32 ((c2 : Int) / 16) (x2 : Int) = (c3 : Int) := t5
            clear e1 e2 e3 er1 er2 ex1 ex2 HD HI hcc
            go_wp2
            go_round
            case rel => exact ⟨i + 1, c3, by omega, l3, by go_num, rfl, HE⟩
            case measure => simp [intOf]; omega
        · have hi2 : i = m := by omega
          subst hi2
          have HE : Hid (c = crcL 4294967295 (ls.take (j + 1)).flatten) := by
            have := HI.out
            rw [List.take_of_length_le (l := l) (by have := HM.out; omega)] at this
            rw [HFl.out]; exact this
          clear HI
          go_wp2
          go_round
          case rel => exact ⟨j + 1, c, by omega, hcl, by go_num, rfl, HE⟩
          case measure => simp [intOf]; omega
    · have hj2 : j = n := by omega
      subst hj2
      have HE : Hid (bits .xor .u32 IntKind.u32.max (c : Int) = ((sumN ls.flatten : Nat) : Int)) := by
        have := HI.out
        rw [List.take_of_length_le (by have := HL.out; omega)] at this
        show _ = _
        rw [show IntKind.u32.max = ((4294967295 : Nat) : Int) from rfl, xor_i _ _ (by decide) hcl, Nat.xor_comm, this]; rfl
      have t1 := HE.out
      clear HI
      go_wp2
      go_ret
      exact ⟨rfl, rfl⟩

end Go.Proofs.YtjngknnkffbnmaaDoor
