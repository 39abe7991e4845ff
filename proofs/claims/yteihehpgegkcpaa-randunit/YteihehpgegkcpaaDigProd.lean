/-
  The walk of the reference's Product.
-/
import Derived.Test.YteihehpgegkcpaaDigDown
import Derived.Deep.QuietTactic
import Derived.BigQuiet
namespace Go.Proofs.Yteihehpgegkcpaa
open Go.RowKit Dg

theorem val_set : ∀ (os : List Nat) (j d : Nat), j < os.length → val (os.set j d) + os.getD j 0 * 65536 ^ j = val os + d * 65536 ^ j := by
  intro os
  induction os with
  | nil => intro j d h; simp at h
  | cons a r ih =>
    intro j d h
    cases j with
    | zero => simp only [List.set_cons_zero, val, List.getD_cons_zero, Nat.pow_zero]; omega
    | succ j =>
      have := ih j d (by simpa using h)
      simp only [List.set_cons_succ, val, List.getD_cons_succ, Nat.pow_succ']
      grind
theorem small_set {os : List Nat} {j d : Nat} (hs : Small16 os) (hd : d < 65536) : Small16 (os.set j d) := by
  intro x hx
  rcases List.mem_or_eq_of_mem_set hx with h | h
  · exact hs x h
  · omega
theorem cells_set (os : List Nat) (j d : Nat) : (cells os).set j (.int .u64 (d : Int)) = cells (os.set j d) := by unfold cells; rw [List.map_set]

theorem prod_step {n m i k c p q o d f : Nat} {os : List Nat} (_hp : p = dig n i) (hq : q = dig m k) (hj : i + k < os.length) (ho : o = os.getD (i + k) 0) (hd : d = (o + p * q + c) % 65536) (hf : f = (o + p * q + c) / 65536)
    (h : val os + c * 65536 ^ (i + k) = (n % 65536 ^ i) * m + p * (m % 65536 ^ k) * 65536 ^ i) :
    val (os.set (i + k) d) + f * 65536 ^ (i + (k + 1)) = (n % 65536 ^ i) * m + p * (m % 65536 ^ (k + 1)) * 65536 ^ i := by
  have hs := val_set os (i + k) d hj
  rw [← ho] at hs
  have hx : d + f * 65536 = o + p * q + c := by omega
  rw [dig_step m k, ← hq]
  rw [show i + (k + 1) = i + k + 1 by omega, Nat.pow_succ]
  have e1 : p * (m % 65536 ^ k + 65536 ^ k * q) * 65536 ^ i = p * (m % 65536 ^ k) * 65536 ^ i + p * q * 65536 ^ (i + k) := by
    rw [Nat.pow_add]; grind
  have e2 : d * 65536 ^ (i + k) + f * (65536 ^ (i + k) * 65536) = o * 65536 ^ (i + k) + p * q * 65536 ^ (i + k) + c * 65536 ^ (i + k) := by
    have := congrArg (· * 65536 ^ (i + k)) hx
    grind
  omega
theorem prod_carry {n m i c p lb : Nat} {os : List Nat} (hp : p = dig n i) (hm : m < 65536 ^ lb) (hj : i + lb < os.length) (ho : os.getD (i + lb) 0 = 0)
    (h : val os + c * 65536 ^ (i + lb) = (n % 65536 ^ i) * m + p * (m % 65536 ^ lb) * 65536 ^ i) : val (os.set (i + lb) c) = (n % 65536 ^ (i + 1)) * m := by
  have hs := val_set os (i + lb) c hj
  rw [ho, Nat.zero_mul, Nat.add_zero] at hs
  rw [hs, h, Nat.mod_eq_of_lt hm, dig_step, ← hp]
  grind
theorem prod_zero {n m i lb : Nat} {os : List Nat} (hs : Small16 os) (hm : m < 65536 ^ lb) (hv : val os = (n % 65536 ^ i) * m) : ∀ t, i + lb ≤ t → os.getD t 0 = 0 := by
  intro t ht
  rw [val_dig os t hs]
  refine dig_ge (Nat.lt_of_lt_of_le ?_ (Nat.pow_le_pow_right (by decide) ht))
  rw [hv, Nat.pow_add]
  have h1 : n % 65536 ^ i < 65536 ^ i := Nat.mod_lt _ (Nat.pow_pos (by decide))
  have h2 : 0 < 65536 ^ i := Nat.pow_pos (by decide)
  exact Nat.lt_of_le_of_lt (Nat.mul_le_mul_right _ (Nat.le_of_lt h1)) (Nat.mul_lt_mul_of_pos_left hm h2)
theorem mul_bound {p q : Nat} (hp : p < 65536) (hq : q < 65536) : p * q ≤ 4294836225 :=
  Nat.mul_le_mul (show p ≤ 65535 by omega) (show q ≤ 65535 by omega)

theorem D.shape_cell {w : World} {v : Value} {n l g cap i : Nat} (h : D w v n l) (hv : v = .slice (some ⟨g, 0, none⟩) l cap) (hi : i < l) : w.cell? ⟨g, i, none⟩ = some (.int .u64 (dig n i : Nat)) := by
  obtain ⟨g', cap', e, _, _, _, hc⟩ := h.shape
  rw [hv] at e
  simp at e
  rw [e.1]
  exact hc i hi

theorem set_zero {rs : List Nat} {j d b : Nat} (hj : j < b) (h : ∀ t, b ≤ t → rs.getD t 0 = 0) : ∀ t, b ≤ t → (rs.set j d).getD t 0 = 0 := by
  intro t ht
  have := h t ht
  rw [List.getD_eq_getElem?_getD] at this ⊢
  rw [List.getElem?_set_ne (by omega)]
  exact this

/-- The row that Product makes. -/
def Row (w : World) (B N : Nat) (os : List Nat) : Prop := os.length = N ∧ Small16 os ∧ w.ownsRow B 22 1 (.slice (some ⟨B, 0, none⟩) N N) N (cells os)
theorem Row.cell {w : World} {B N : Nat} {os : List Nat} (h : Row w B N os) {j : Nat} (hj : j < N) : w.cell? ⟨B, j, none⟩ = some (.int .u64 (os.getD j 0 : Nat)) := by
  obtain ⟨h1, h2, h3⟩ := h
  have hj2 : j < os.length := by omega
  rw [h3.cellAt j (by omega), cells, List.getElem?_map, List.getElem?_eq_getElem hj2, List.getD_eq_getElem?_getD, List.getElem?_eq_getElem hj2]
  rfl

theorem Row.made {w w1 : World} {N : Nat} (h : w1.ownsRow w.heap.size 22 1 (.slice (some ⟨w.heap.size, 0, none⟩) N N) N (madeCells #[.int .u64 0] N).toList) : Row w1 w.heap.size N (List.replicate N 0) := by
  refine ⟨List.length_replicate, small_replicate N, ?_⟩
  rw [toList_madeCells_one] at h
  have e : cells (List.replicate N 0) = List.replicate N (.int .u64 0) := by unfold cells; rw [List.map_replicate]; rfl
  rw [e]
  exact h
theorem Row.stored {w : World} {B N : Nat} {os : List Nat} (h : Row w B N os) {j d : Nat} (hd : d < 65536) : Row (w.setCell ⟨B, j, none⟩ (.int .u64 (d : Int))) B N (os.set j d) := by
  obtain ⟨h1, h2, h3⟩ := h
  refine ⟨by rw [List.length_set]; exact h1, small_set h2 hd, ?_⟩
  have := (h3.stored j (.int .u64 (d : Int))).1
  rw [cells_set] at this
  exact this
theorem Row.drewN {w : World} {B N : Nat} {os : List Nat} (h : Row w B N os) (q : Nat) : Row (w.drewN q) B N os := h
theorem Row.frozen {w : World} {B N : Nat} {os : List Nat} (h : Row w B N os) (j : Nat) : w.frozen? ⟨B, j, none⟩ = false := h.2.2.frozenAt j

set_option maxHeartbeats 2000000 in
theorem prod_any (v u : Value) (n la m lb : Nat) (w : World) (hD : D w v n la) (hE : D w u m lb) (hl : la ≤ 268435456) (hk : lb ≤ 268435456) :
    Calls Try.prog 34 #[v, u] w fun e w' => ∃ v', e = .returned v' ∧ D w' v' (n * m) (dlen (n * m)) ∧ Below w.heap.size w w' := by
  obtain ⟨i0, hi, hz0, hz1, hz2⟩ := info_parts infoU
  have hn := hD.lt
  have hm := hE.lt
  obtain ⟨g, cap, rfl, hg, hlc, hcm, -⟩ := hD.shape
  obtain ⟨g', cap', rfl, hg', hlc', hcm', -⟩ := hE.shape
  unfold maxLen at hcm hcm'
  go_enter Try.func34, Try.ntmps34
  go_wp2_with (at_make; refine wpList_make_full _ rfl _ _ 42 rfl w.heap.size 22 i0 (.int .u64 0) 1 Try.underlying42 hi hz0 hz1 _ _ _ _ (la + lb) rfl rfl (by omega) (by omega) (by rw [hz2]; omega) (by unfold maxLen; omega) (Nat.le_refl _) ?_)
  intro w1 hown1 hgrow1
  have hR := Row.made hown1
  have hb1 : Below w.heap.size w w1 := (Below.refl _ _).grown hgrow1 (Nat.le_refl _) (by simp)
  clear hown1 hgrow1
  go_wp2_with fail
  go_loopw [6] (fun t wr => ∃ (i : Nat) (os : List Nat), i ≤ la ∧ t = .int .i64 i ∧ Row wr w.heap.size (la + lb) os ∧ val os = (n % 65536 ^ i) * m ∧ Below w.heap.size w wr) (fun t _ => la - (intOf t).toNat)
  case atStart => exact ⟨0, _, Nat.zero_le _, rfl, hR, by rw [val_replicate]; simp [Nat.mod_one], hb1⟩
  case round =>
    obtain ⟨i, os, hi', rfl, hRr, hv, hbel⟩ := hrel
    by_cases c : i < la
    · have HZ : Hid (∀ t, i + lb ≤ t → os.getD t 0 = 0) := prod_zero hRr.2.1 hm hv
      have HV : Hid (val os + 0 * 65536 ^ (i + 0) = (n % 65536 ^ i) * m + dig n i * (m % 65536 ^ 0) * 65536 ^ i) := by
        show val os + _ = _
        rw [hv]; simp [Nat.mod_one]
      clear hv
      have hct : decide ((i : Int) < (la : Int)) = true := by simp; omega
      go_wp2_with fail
      go_loopw [7, 8] (fun cr t wq => ∃ (k cc : Nat) (rs : List Nat), k ≤ lb ∧ t = .int .i64 k ∧ cr = .int .u64 cc ∧ cc < 65536 ∧ Row wq w.heap.size (la + lb) rs ∧ (∀ t, i + lb ≤ t → rs.getD t 0 = 0) ∧
        val rs + cc * 65536 ^ (i + k) = (n % 65536 ^ i) * m + dig n i * (m % 65536 ^ k) * 65536 ^ i ∧ Below w.heap.size w wq) (fun _ t _ => lb - (intOf t).toNat)
      case atStart => exact ⟨0, 0, os, Nat.zero_le _, rfl, rfl, by omega, hRr, HZ.out, HV.out, hbel⟩
      case round =>
        obtain ⟨k, cc, rs, hk', rfl, rfl, hcc, hRq, hz, hv, hbq⟩ := hrel
        have HZ2 : Hid (∀ t, i + lb ≤ t → rs.getD t 0 = 0) := hz
        have HV2 : Hid (val rs + cc * 65536 ^ (i + k) = (n % 65536 ^ i) * m + dig n i * (m % 65536 ^ k) * 65536 ^ i) := hv
        clear hz hv
        by_cases d : k < lb
        · obtain ⟨p, hp⟩ : ∃ p, p = dig n i := ⟨_, rfl⟩
          obtain ⟨q, hq⟩ : ∃ q, q = dig m k := ⟨_, rfl⟩
          obtain ⟨o, ho⟩ : ∃ o, o = rs.getD (i + k) 0 := ⟨_, rfl⟩
          have c1 := hRq.cell (show i + k < la + lb by omega)
          have c2 : wr.cell? ⟨g, i, none⟩ = some (.int .u64 (p : Int)) := by rw [hp]; exact (hD.below hbq).shape_cell rfl c
          have c3 : wr.cell? ⟨g', k, none⟩ = some (.int .u64 (q : Int)) := by rw [hq]; exact (hE.below hbq).shape_cell rfl d
          rw [← ho] at c1
          have p1 : p < 65536 := by rw [hp]; exact dig_lt _ _
          have q1 : q < 65536 := by rw [hq]; exact dig_lt _ _
          have o1 : o < 65536 := by rw [ho, val_dig rs _ hRq.2.1]; exact dig_lt _ _
          have pq := mul_bound p1 q1
          have pq2 : (p : Int) * (q : Int) ≤ 4294836225 := by rw [← Int.natCast_mul]; omega
          have pq3 : 0 ≤ (p : Int) * (q : Int) := by rw [← Int.natCast_mul]; omega
          obtain ⟨dd, hdd⟩ : ∃ d, d = (o + p * q + cc) % 65536 := ⟨_, rfl⟩
          obtain ⟨f, hf⟩ : ∃ f, f = (o + p * q + cc) / 65536 := ⟨_, rfl⟩
          have t1 : bits .and .u64 ((o : Int) + (p : Int) * (q : Int) + (cc : Int)) 65535 = (dd : Int) := by
            have := and16 (o + p * q + cc) (by omega)
            rw [hdd, ← this]; simp
          have t2 : ((o : Int) + (p : Int) * (q : Int) + (cc : Int)) / 65536 = (f : Int) := by rw [hf]; simp
          have HM : Hid (val (rs.set (i + k) dd) + f * 65536 ^ (i + (k + 1)) = (n % 65536 ^ i) * m + dig n i * (m % 65536 ^ (k + 1)) * 65536 ^ i) := by
            show val _ + _ = _
            rw [← hp]
            exact prod_step hp hq (by rw [hRq.1]; omega) ho hdd hf (by rw [hp]; exact HV2.out)
          have d1 : dd < 65536 := by omega
          have f1 : f < 65536 := by omega
          have hz3 := hRq.frozen (i + k)
          clear hp hq ho hdd hf
          go_wp2_with fail
          go_quiet (fail)
          go_wp2
          go_roundw
          case rel => exact ⟨k + 1, f, rs.set (i + k) dd, by omega, by go_num, rfl, f1, hRq.stored d1, set_zero (by omega) HZ2.out, HM.out, (below_drewN hbq nq).setCell (p := ⟨w.heap.size, i + k, none⟩) (Nat.le_refl _) _⟩
          case measure => simp [intOf]; omega
        · have HK : Hid (k = lb) := by show k = lb; omega
          have hz3 := hRq.frozen (i + lb)
          have c1 := hRq.cell (show i + lb < la + lb by omega)
          have hd2 : decide ((k : Int) < (lb : Int)) = false := by simp; omega
          have HC : Hid (val (rs.set (i + lb) cc) = (n % 65536 ^ (i + 1)) * m) := by
            have hv2 := HV2.out
            rw [HK.out] at hv2
            exact prod_carry rfl hm (by rw [hRq.1]; omega) (HZ2.out _ (Nat.le_refl _)) hv2
          go_wp2
          go_roundw
          case rel => exact ⟨i + 1, rs.set (i + lb) cc, by omega, by go_num, hRq.stored hcc, HC.out, hbq.setCell (p := ⟨w.heap.size, i + lb, none⟩) (Nat.le_refl _) _⟩
          case measure => simp [intOf]; omega
    · have HI : Hid (i = la) := by show i = la; omega
      have hd : D wr (.slice (some ⟨w.heap.size, 0, none⟩) (la + lb) (la + lb)) (n * m) (la + lb) := by
        refine ⟨os, w.heap.size, la + lb, rfl, hRr.1, hRr.2.1, ?_, ownsRow_base hRr.2.2⟩
        rw [hv, HI.out, Nat.mod_eq_of_lt hn]
      clear hv
      go_wp2_with (go_at_call 33; refine (trim_any _ (n * m) (la + lb) _ hd (by omega)).mono ?_; rintro e w2 ⟨v2, rfl, hd2, hb2⟩)
      go_ret
      exact ⟨_, rfl, hd2, hbel.trans (hb2.mono hbel.size)⟩

end Go.Proofs.Yteihehpgegkcpaa
