/-
  DigProd, DigUp, DigRound, FloWalk, FloWalk2, FloLen
-/
import Derived.Deep.QuietTactic
import Derived.BigQuiet
import Derived.Test.YtjkedocppbcncaaDoorRows
import Derived.WalkKit
import Derived.WalkSpells
import Derived.WalkLawsBesides
import Derived.Lib.BitFns
import Derived.Test.YtjkedocppbcncaaDoorZ02

/-
  The walk of the reference's Product.
-/
namespace Go.Proofs.YtjkedocppbcncaaDoor
set_option maxRecDepth 100000
open Go.RowKit Dg

theorem val_set : ∀ (os : List Nat) (j d : Nat), j < os.length → val (os.set j d) + os.getD j 0 * 65536 ^ j = val os + d * 65536 ^ j := by
  intro os
  induction os with
  | nil => intro j d h; simp at h
  | cons a r ih =>
    intro j d h
    cases j with
    | zero => simp only [List.set_cons_zero, val, List.getD_cons_zero, Nat.pow_zero]; omega
    | succ j =>
      have := ih j d (by simpa using h)
      simp only [List.set_cons_succ, val, List.getD_cons_succ, Nat.pow_succ']
      grind
theorem small_set {os : List Nat} {j d : Nat} (hs : Small16 os) (hd : d < 65536) : Small16 (os.set j d) := by
  intro x hx
  rcases List.mem_or_eq_of_mem_set hx with h | h
  · exact hs x h
  · omega
theorem cells_set (os : List Nat) (j d : Nat) : (cells os).set j (.int .u64 (d : Int)) = cells (os.set j d) := by unfold cells; rw [List.map_set]

theorem prod_step {n m i k c p q o d f : Nat} {os : List Nat} (_hp : p = dig n i) (hq : q = dig m k) (hj : i + k < os.length) (ho : o = os.getD (i + k) 0) (hd : d = (o + p * q + c) % 65536) (hf : f = (o + p * q + c) / 65536)
    (h : val os + c * 65536 ^ (i + k) = (n % 65536 ^ i) * m + p * (m % 65536 ^ k) * 65536 ^ i) :
    val (os.set (i + k) d) + f * 65536 ^ (i + (k + 1)) = (n % 65536 ^ i) * m + p * (m % 65536 ^ (k + 1)) * 65536 ^ i := by
  have hs := val_set os (i + k) d hj
  rw [← ho] at hs
  have hx : d + f * 65536 = o + p * q + c := by omega
  rw [dig_step m k, ← hq]
  rw [show i + (k + 1) = i + k + 1 by omega, Nat.pow_succ]
  have e1 : p * (m % 65536 ^ k + 65536 ^ k * q) * 65536 ^ i = p * (m % 65536 ^ k) * 65536 ^ i + p * q * 65536 ^ (i + k) := by
    rw [Nat.pow_add]; grind
  have e2 : d * 65536 ^ (i + k) + f * (65536 ^ (i + k) * 65536) = o * 65536 ^ (i + k) + p * q * 65536 ^ (i + k) + c * 65536 ^ (i + k) := by
    have := congrArg (· * 65536 ^ (i + k)) hx
    grind
  omega
theorem prod_carry {n m i c p lb : Nat} {os : List Nat} (hp : p = dig n i) (hm : m < 65536 ^ lb) (hj : i + lb < os.length) (ho : os.getD (i + lb) 0 = 0)
    (h : val os + c * 65536 ^ (i + lb) = (n % 65536 ^ i) * m + p * (m % 65536 ^ lb) * 65536 ^ i) : val (os.set (i + lb) c) = (n % 65536 ^ (i + 1)) * m := by
  have hs := val_set os (i + lb) c hj
  rw [ho, Nat.zero_mul, Nat.add_zero] at hs
  rw [hs, h, Nat.mod_eq_of_lt hm, dig_step, ← hp]
  grind
theorem prod_zero {n m i lb : Nat} {os : List Nat} (hs : Small16 os) (hm : m < 65536 ^ lb) (hv : val os = (n % 65536 ^ i) * m) : ∀ t, i + lb ≤ t → os.getD t 0 = 0 := by
  intro t ht
  rw [val_dig os t hs]
  refine dig_ge (Nat.lt_of_lt_of_le ?_ (Nat.pow_le_pow_right (by decide) ht))
  rw [hv, Nat.pow_add]
  have h1 : n % 65536 ^ i < 65536 ^ i := Nat.mod_lt _ (Nat.pow_pos (by decide))
  have h2 : 0 < 65536 ^ i := Nat.pow_pos (by decide)
  exact Nat.lt_of_le_of_lt (Nat.mul_le_mul_right _ (Nat.le_of_lt h1)) (Nat.mul_lt_mul_of_pos_left hm h2)
theorem mul_bound {p q : Nat} (hp : p < 65536) (hq : q < 65536) : p * q ≤ 4294836225 :=
  Nat.mul_le_mul (show p ≤ 65535 by omega) (show q ≤ 65535 by omega)

theorem D.shape_cell {w : World} {v : Value} {n l g cap i : Nat} (h : D w v n l) (hv : v = .slice (some ⟨g, 0, none⟩) l cap) (hi : i < l) : w.cell? ⟨g, i, none⟩ = some (.int .u64 (dig n i : Nat)) := by
  obtain ⟨g', cap', e, _, _, _, hc⟩ := h.shape
  rw [hv] at e
  simp at e
  rw [e.1]
  exact hc i hi

theorem set_zero {rs : List Nat} {j d b : Nat} (hj : j < b) (h : ∀ t, b ≤ t → rs.getD t 0 = 0) : ∀ t, b ≤ t → (rs.set j d).getD t 0 = 0 := by
  intro t ht
  have := h t ht
  rw [List.getD_eq_getElem?_getD] at this ⊢
  rw [List.getElem?_set_ne (by omega)]
  exact this

/-- The row that Product makes. -/
def Row (w : World) (B N : Nat) (os : List Nat) : Prop := os.length = N ∧ Small16 os ∧ w.ownsRow B 32 1 (.slice (some ⟨B, 0, none⟩) N N) N (cells os)
theorem Row.cell {w : World} {B N : Nat} {os : List Nat} (h : Row w B N os) {j : Nat} (hj : j < N) : w.cell? ⟨B, j, none⟩ = some (.int .u64 (os.getD j 0 : Nat)) := by
  obtain ⟨h1, h2, h3⟩ := h
  have hj2 : j < os.length := by omega
  rw [h3.cellAt j (by omega), cells, List.getElem?_map, List.getElem?_eq_getElem hj2, List.getD_eq_getElem?_getD, List.getElem?_eq_getElem hj2]
  rfl

theorem Row.made {w w1 : World} {N : Nat} (h : w1.ownsRow w.heap.size 32 1 (.slice (some ⟨w.heap.size, 0, none⟩) N N) N (madeCells #[.int .u64 0] N).toList) : Row w1 w.heap.size N (List.replicate N 0) := by
  refine ⟨List.length_replicate, small_replicate N, ?_⟩
  rw [toList_madeCells_one] at h
  have e : cells (List.replicate N 0) = List.replicate N (.int .u64 0) := by unfold cells; rw [List.map_replicate]; rfl
  rw [e]
  exact h
theorem Row.stored {w : World} {B N : Nat} {os : List Nat} (h : Row w B N os) {j d : Nat} (hd : d < 65536) : Row (w.setCell ⟨B, j, none⟩ (.int .u64 (d : Int))) B N (os.set j d) := by
  obtain ⟨h1, h2, h3⟩ := h
  refine ⟨by rw [List.length_set]; exact h1, small_set h2 hd, ?_⟩
  have := (h3.stored j (.int .u64 (d : Int))).1
  rw [cells_set] at this
  exact this
theorem Row.drewN {w : World} {B N : Nat} {os : List Nat} (h : Row w B N os) (q : Nat) : Row (w.drewN q) B N os := h
theorem Row.frozen {w : World} {B N : Nat} {os : List Nat} (h : Row w B N os) (j : Nat) : w.frozen? ⟨B, j, none⟩ = false := h.2.2.frozenAt j

set_option maxHeartbeats 2000000 in
theorem prod_any (v u : Value) (n la m lb : Nat) (w : World) (hD : D w v n la) (hE : D w u m lb) (hl : la ≤ 268435456) (hk : lb ≤ 268435456) :
    Calls Tryd.prog 80 #[v, u] w fun e w' => ∃ v', e = .returned v' ∧ D w' v' (n * m) (dlen (n * m)) ∧ Below w.heap.size w w' := by
  obtain ⟨i0, hi, hz0, hz1, hz2⟩ := info_parts infoU
  have hn := hD.lt
  have hm := hE.lt
  obtain ⟨g, cap, rfl, hg, hlc, hcm, -⟩ := hD.shape
  obtain ⟨g', cap', rfl, hg', hlc', hcm', -⟩ := hE.shape
  unfold maxLen at hcm hcm'
  go_enter Tryd.func80, Tryd.ntmps80
  go_wp2_with (at_make; refine wpList_make_full _ rfl _ _ 68 rfl w.heap.size 32 i0 (.int .u64 0) 1 Tryd.underlying68 hi hz0 hz1 _ _ _ _ (la + lb) rfl rfl (by omega) (by omega) (by rw [hz2]; omega) (by unfold maxLen; omega) (Nat.le_refl _) ?_)
  intro w1 hown1 hgrow1
  have hR := Row.made hown1
  have hb1 : Below w.heap.size w w1 := (Below.refl _ _).grown hgrow1 (Nat.le_refl _) (by simp)
  clear hown1 hgrow1
  go_wp2_with fail
  go_loopw [6] (fun t wr => ∃ (i : Nat) (os : List Nat), i ≤ la ∧ t = .int .i64 i ∧ Row wr w.heap.size (la + lb) os ∧ val os = (n % 65536 ^ i) * m ∧ Below w.heap.size w wr) (fun t _ => la - (intOf t).toNat)
  case atStart => exact ⟨0, _, Nat.zero_le _, rfl, hR, by rw [val_replicate]; simp [Nat.mod_one], hb1⟩
  case round =>
    obtain ⟨i, os, hi', rfl, hRr, hv, hbel⟩ := hrel
    by_cases c : i < la
    · have HZ : Hid (∀ t, i + lb ≤ t → os.getD t 0 = 0) := prod_zero hRr.2.1 hm hv
      have HV : Hid (val os + 0 * 65536 ^ (i + 0) = (n % 65536 ^ i) * m + dig n i * (m % 65536 ^ 0) * 65536 ^ i) := by
        show val os + _ = _
        rw [hv]; simp [Nat.mod_one]
      clear hv
      have hct : decide ((i : Int) < (la : Int)) = true := by simp; omega
      go_wp2_with fail
      go_loopw [7, 8] (fun cr t wq => ∃ (k cc : Nat) (rs : List Nat), k ≤ lb ∧ t = .int .i64 k ∧ cr = .int .u64 cc ∧ cc < 65536 ∧ Row wq w.heap.size (la + lb) rs ∧ (∀ t, i + lb ≤ t → rs.getD t 0 = 0) ∧
        val rs + cc * 65536 ^ (i + k) = (n % 65536 ^ i) * m + dig n i * (m % 65536 ^ k) * 65536 ^ i ∧ Below w.heap.size w wq) (fun _ t _ => lb - (intOf t).toNat)
      case atStart => exact ⟨0, 0, os, Nat.zero_le _, rfl, rfl, by omega, hRr, HZ.out, HV.out, hbel⟩
      case round =>
        obtain ⟨k, cc, rs, hk', rfl, rfl, hcc, hRq, hz, hv, hbq⟩ := hrel
        have HZ2 : Hid (∀ t, i + lb ≤ t → rs.getD t 0 = 0) := hz
        have HV2 : Hid (val rs + cc * 65536 ^ (i + k) = (n % 65536 ^ i) * m + dig n i * (m % 65536 ^ k) * 65536 ^ i) := hv
        clear hz hv
        by_cases d : k < lb
        · obtain ⟨p, hp⟩ : ∃ p, p = dig n i := ⟨_, rfl⟩
          obtain ⟨q, hq⟩ : ∃ q, q = dig m k := ⟨_, rfl⟩
          obtain ⟨o, ho⟩ : ∃ o, o = rs.getD (i + k) 0 := ⟨_, rfl⟩
          have c1 := hRq.cell (show i + k < la + lb by omega)
          have c2 : wr.cell? ⟨g, i, none⟩ = some (.int .u64 (p : Int)) := by rw [hp]; exact (hD.below hbq).shape_cell rfl c
          have c3 : wr.cell? ⟨g', k, none⟩ = some (.int .u64 (q : Int)) := by rw [hq]; exact (hE.below hbq).shape_cell rfl d
          rw [← ho] at c1
          have p1 : p < 65536 := by rw [hp]; exact dig_lt _ _
          have q1 : q < 65536 := by rw [hq]; exact dig_lt _ _
          have o1 : o < 65536 := by rw [ho, val_dig rs _ hRq.2.1]; exact dig_lt _ _
          have pq := mul_bound p1 q1
          have pq2 : (p : Int) * (q : Int) ≤ 4294836225 := by rw [← Int.natCast_mul]; omega
          have pq3 : 0 ≤ (p : Int) * (q : Int) := by rw [← Int.natCast_mul]; omega
          obtain ⟨dd, hdd⟩ : ∃ d, d = (o + p * q + cc) % 65536 := ⟨_, rfl⟩
          obtain ⟨f, hf⟩ : ∃ f, f = (o + p * q + cc) / 65536 := ⟨_, rfl⟩
          have t1 : bits .and .u64 ((o : Int) + (p : Int) * (q : Int) + (cc : Int)) 65535 = (dd : Int) := by
            have := and16 (o + p * q + cc) (by omega)
            rw [hdd, ← this]; simp
          have t2 : ((o : Int) + (p : Int) * (q : Int) + (cc : Int)) / 65536 = (f : Int) := by rw [hf]; simp
          have HM : Hid (val (rs.set (i + k) dd) + f * 65536 ^ (i + (k + 1)) = (n % 65536 ^ i) * m + dig n i * (m % 65536 ^ (k + 1)) * 65536 ^ i) := by
            show val _ + _ = _
            rw [← hp]
            exact prod_step hp hq (by rw [hRq.1]; omega) ho hdd hf (by rw [hp]; exact HV2.out)
          have d1 : dd < 65536 := by omega
          have f1 : f < 65536 := by omega
          have hz3 := hRq.frozen (i + k)
          clear hp hq ho hdd hf
          go_wp2_with fail
          go_quiet (fail)
          go_wp2
          go_roundw
          case rel => exact ⟨k + 1, f, rs.set (i + k) dd, by omega, by go_num, rfl, f1, hRq.stored d1, set_zero (by omega) HZ2.out, HM.out, (below_drewN hbq nq).setCell (p := ⟨w.heap.size, i + k, none⟩) (Nat.le_refl _) _⟩
          case measure => simp [intOf]; omega
        · have HK : Hid (k = lb) := by show k = lb; omega
          have hz3 := hRq.frozen (i + lb)
          have c1 := hRq.cell (show i + lb < la + lb by omega)
          have hd2 : decide ((k : Int) < (lb : Int)) = false := by simp; omega
          have HC : Hid (val (rs.set (i + lb) cc) = (n % 65536 ^ (i + 1)) * m) := by
            have hv2 := HV2.out
            rw [HK.out] at hv2
            exact prod_carry rfl hm (by rw [hRq.1]; omega) (HZ2.out _ (Nat.le_refl _)) hv2
          go_wp2
          go_roundw
          case rel => exact ⟨i + 1, rs.set (i + lb) cc, by omega, by go_num, hRq.stored hcc, HC.out, hbq.setCell (p := ⟨w.heap.size, i + lb, none⟩) (Nat.le_refl _) _⟩
          case measure => simp [intOf]; omega
    · have HI : Hid (i = la) := by show i = la; omega
      have hd : D wr (.slice (some ⟨w.heap.size, 0, none⟩) (la + lb) (la + lb)) (n * m) (la + lb) := by
        refine ⟨os, w.heap.size, la + lb, rfl, hRr.1, hRr.2.1, ?_, ownsRow_base hRr.2.2⟩
        rw [hv, HI.out, Nat.mod_eq_of_lt hn]
      clear hv
      go_wp2_with (go_at_call 79; refine (trim_any _ (n * m) (la + lb) _ hd (by omega)).mono ?_; rintro e w2 ⟨v2, rfl, hd2, hb2⟩)
      go_ret
      exact ⟨_, rfl, hd2, hbel.trans (hb2.mono hbel.size)⟩

end Go.Proofs.YtjkedocppbcncaaDoor

/-
  The walk of the reference's Up.
-/
namespace Go.Proofs.YtjkedocppbcncaaDoor
set_option maxRecDepth 100000
open Go.RowKit Dg

theorem D.news {w : World} {n l g cap : Nat} (h : D w (.slice (some ⟨g, 0, none⟩) l cap) n l) :
    ∃ ds : List Nat, ds.length = l ∧ Small16 ds ∧ val ds = n ∧ (cells ds).length = l * 1 ∧ (∀ w', Below w.heap.size w w' → ∀ j u, (cells ds)[j]? = some u → w'.cell? ((⟨g, 0, none⟩ : Addr).add j) = some u) := by
  obtain ⟨ds, g', cap', e, h2, h3, h4, h5⟩ := h
  refine ⟨ds, h2, h3, h4, by rw [cells_length]; omega, ?_⟩
  intro w' hb
  exact (ownsRow_below h5 hb (Nat.le_refl _)).cells (g := g) rfl

theorem up_val (q : Nat) (ds : List Nat) : val (List.replicate q 0 ++ ds) = 65536 ^ q * val ds := by
  rw [val_append, val_replicate, List.length_replicate]; omega
theorem up_small {q : Nat} {ds : List Nat} (h : Small16 ds) : Small16 (List.replicate q 0 ++ ds) := by
  intro x hx
  rcases List.mem_append.1 hx with k | k
  · exact small_replicate q x k
  · exact h x k
theorem up_eq (n q r : Nat) : 65536 ^ q * n * 2 ^ r = n * 2 ^ (16 * q + r) := by
  rw [pow16, Nat.pow_add]; grind
theorem cells_app (xs ys : List Nat) : cells xs ++ cells ys = cells (xs ++ ys) := by unfold cells; rw [List.map_append]

theorem D_one (w : World) (x : Nat) (hx : x < 65536) : D (w.alloc (.cells #[.int .u64 (x : Int)] 32)) (.slice (some ⟨w.heap.size, 0, none⟩) 1 1) x 1 :=
  ⟨[x], w.heap.size, 1, rfl, rfl, by intro y hy; simp at hy; omega, by simp [val], World.ownsRow_lit w #[.int .u64 (x : Int)] 1 (Nat.zero_le _) (by decide) rfl⟩

set_option maxHeartbeats 1000000 in
theorem up_walk (v : Value) (n l k q r x : Nat) (w : World) (hD : D w v n l) (hl : l ≤ 134217728) (hk : k ≤ 1073741824) (hq : (k : Int) / 16 = (q : Int)) (hr : (k : Int) % 16 = (r : Int)) (hqr : k = 16 * q + r)
    (_hr2 : r < 16) (hx : IntKind.u64.wrap (2 ^ r) = (x : Int)) (hx2 : x = 2 ^ r) (hx3 : x < 65536) :
    Calls Tryd.prog 73 #[v, .int .i64 k] w fun e w' => ∃ v', e = .returned v' ∧ D w' v' (n * 2 ^ k) (dlen (n * 2 ^ k)) ∧ Below w.heap.size w w' := by
  obtain ⟨i0, hi, hz0, hz1, hz2⟩ := info_parts infoU
  obtain ⟨g, cap, rfl, hg, hlc, hcm, -⟩ := hD.shape
  unfold maxLen at hcm
  obtain ⟨ds, hlen, hsm, hval, hcl, hnews⟩ := hD.news
  have HE : Hid (65536 ^ q * n * x = n * 2 ^ k) := by
    show _ = n * 2 ^ k
    rw [hx2, hqr, up_eq]
  have HQ : Hid (k = 16 * q + r) := hqr
  have hq2 : q ≤ 67108864 := by omega
  clear hqr hx2
  have HN : Hid (∀ w', Below w.heap.size w w' → ∀ j u, (cells ds)[j]? = some u → w'.cell? ((⟨g, 0, none⟩ : Addr).add j) = some u) := hnews
  clear hnews
  go_enter Tryd.func73, Tryd.ntmps73
  go_wp2_with (at_make; refine wpList_make_full _ rfl _ _ 68 rfl w.heap.size 32 i0 (.int .u64 0) 1 Tryd.underlying68 hi hz0 hz1 _ _ _ _ q rfl rfl (by omega) (by omega) (by rw [hz2]; omega) (by unfold maxLen; omega) (Nat.le_refl _) ?_)
  intro w1 hown1 hgrow1
  have hR := Row.made hown1
  have hb1 : Below w.heap.size w w1 := (Below.refl _ _).grown hgrow1 (Nat.le_refl _) (by simp)
  clear hown1 hgrow1
  go_wp2_with (at_builtin; refine wpList_append_own _ rfl _ _ 68 rfl w.heap.size 32 i0 (.int .u64 0) 1 8 Tryd.underlying68 hi hz0 hz1 hz2 rfl (by decide) _ q (cells (List.replicate q 0)) rfl hR.2.2 ⟨g, 0, none⟩ l cap (cells ds) rfl hcl (HN.out _ hb1) (cells_one _) (by unfold maxLen; omega) (by omega) hb1.size ?_)
  intro v2 w2 hown2 hgrow2 hnil2
  have hb2 : Below w.heap.size w w2 := hb1.grown hgrow2 hb1.size (by intro k hk; simp [Value.ownBlock] at hk; omega)
  have hd2 : D w2 v2 (65536 ^ q * n) (q + l) := by
    rw [cells_app] at hown2
    have := D.of_own (ownsRow_base hown2) hnil2 (up_small hsm)
    rw [up_val, hval] at this
    exact this
  clear hown2 hgrow2 hnil2
  have hd3 := hd2.below ((Below.refl w2.heap.size w2).alloc (Nat.le_refl _) (.cells #[.int .u64 (x : Int)] 32))
  have hd4 := D_one w2 x hx3
  have hb4 : Below w.heap.size w (w2.alloc (.cells #[.int .u64 (x : Int)] 32)) := hb2.alloc hb2.size _
  go_wp2_with fail
  refine (prod_any _ _ (65536 ^ q * n) (q + l) x 1 _ hd3 hd4 (by omega) (by omega)).mono ?_
  rintro e w5 ⟨v5, rfl, hd5, hb5⟩
  have hb6 : Below w.heap.size w w5 := hb4.trans (hb5.mono hb4.size)
  rw [HE.out] at hd5
  have hlen5 : dlen (n * 2 ^ k) ≤ 1073741824 := by
    have h1 := hD.lt
    have : n * 2 ^ k < 65536 ^ (l + q + 1) := by
      rw [pow16] at h1 ⊢
      have hp : 0 < 2 ^ k := Nat.two_pow_pos k
      have h2 : n * 2 ^ k < 2 ^ (16 * l) * 2 ^ k := Nat.mul_lt_mul_of_pos_right h1 hp
      rw [← Nat.pow_add] at h2
      refine Nat.lt_of_lt_of_le h2 (Nat.pow_le_pow_right (by decide) ?_)
      have := HQ.out
      omega
    have := dlen_le this
    omega
  clear hd2 hd3 hd4 hb2 hb4 hb5 hb1
  go_wp2_with fail
  refine (trim_any _ (n * 2 ^ k) _ _ hd5 hlen5).mono ?_
  rintro e w7 ⟨v7, rfl, hd7, hb7⟩
  go_wp2
  go_ret
  exact ⟨_, rfl, hd7, hb6.trans (hb7.mono hb6.size)⟩

theorem up_any (v : Value) (n l k : Nat) (w : World) (hD : D w v n l) (hl : l ≤ 134217728) (hk : k ≤ 1073741824) :
    Calls Tryd.prog 73 #[v, .int .i64 k] w fun e w' => ∃ v', e = .returned v' ∧ D w' v' (n * 2 ^ k) (dlen (n * 2 ^ k)) ∧ Below w.heap.size w w' := by
  have hp : 2 ^ (k % 16) ≤ 32768 := Nat.pow_le_pow_right (n := 2) (by decide) (show k % 16 ≤ 15 by omega)
  refine up_walk v n l k (k / 16) (k % 16) (2 ^ (k % 16)) w hD hl hk (by omega) (by omega) (by omega) (by omega) ?_ rfl (by omega)
  rw [IntKind.wrap_u64, show (2 : Int) ^ (k % 16) = ((2 ^ (k % 16) : Nat) : Int) by rw [Int.natCast_pow]; rfl]
  generalize 2 ^ (k % 16) = z at *
  omega

end Go.Proofs.YtjkedocppbcncaaDoor

/-
  Plain mathematics: what the reference's Round reckons is the nearest rung.
-/
namespace Go.Proofs.YtjkedocppbcncaaDoor
set_option maxRecDepth 100000
open Go.RowKit Dg Flo

/-- Two bits below the last one that counts, and whether anything is below these. -/
def rX (N : Nat) (drop : Int) : Nat := if 2 ≤ drop then N / 2 ^ (drop - 2).toNat else N * 2 ^ (2 - drop).toNat
def rLost (N : Nat) (drop : Int) (more : Bool) : Bool := if 2 ≤ drop then more || decide (N % 2 ^ (drop - 2).toNat ≠ 0) else more
def rUp (X : Nat) (lost : Bool) : Bool := decide (2 < X % 4 ∨ (X % 4 = 2 ∧ (lost = true ∨ X / 4 % 2 = 1)))
def rQ (X : Nat) (lost : Bool) : Nat := X / 4 + (rUp X lost).toNat

theorem ite_iff {A B : Prop} [Decidable A] [Decidable B] (h : A ↔ B) : (decide A).toNat = if B then 1 else 0 := by
  by_cases c : A
  · rw [decide_eq_true c, if_pos (h.1 c)]; rfl
  · rw [decide_eq_false c, if_neg (fun k => c (h.2 k))]; rfl

theorem rQ_down {N k : Nat} {more : Bool} : rQ (N / 2 ^ k) (more || decide (N % 2 ^ k ≠ 0)) = rne (2 * N + more.toNat) (k + 3) := by
  have hp : 0 < 2 ^ k := Nat.two_pow_pos k
  have hdm := Nat.div_add_mod N (2 ^ k)
  have hlt : N % 2 ^ k < 2 ^ k := Nat.mod_lt _ hp
  have e8 : 2 ^ (k + 3) = 8 * 2 ^ k := by rw [Nat.pow_add]; omega
  have hm : more.toNat ≤ 1 := by cases more <;> simp
  have hm1 : more.toNat = 0 ↔ more = false := by cases more <;> simp
  unfold rQ rUp rne
  rw [e8]
  generalize N / 2 ^ k = X at *
  generalize N % 2 ^ k = R at *
  generalize 2 ^ k = P at *
  have hM : 2 * N + more.toNat = 8 * P * (X / 4) + (2 * P * (X % 4) + (2 * R + more.toNat)) := by
    have hx := Nat.div_add_mod X 4
    have : P * X = 4 * P * (X / 4) + P * (X % 4) := by
      calc P * X = P * (4 * (X / 4) + X % 4) := by rw [hx]
        _ = _ := by rw [Nat.mul_add]; grind
    grind
  have hs : 2 * P * (X % 4) + (2 * R + more.toNat) < 8 * P := by
    have h3 : X % 4 ≤ 3 := by omega
    have : 2 * P * (X % 4) ≤ 2 * P * 3 := Nat.mul_le_mul_left _ h3
    omega
  have q1 : (2 * N + more.toNat) / (8 * P) = X / 4 := by
    rw [hM, Nat.mul_add_div (by omega), Nat.div_eq_of_lt hs, Nat.add_zero]
  have q2 : (2 * N + more.toNat) % (8 * P) = 2 * P * (X % 4) + (2 * R + more.toNat) := by
    rw [hM, Nat.mul_add_mod, Nat.mod_eq_of_lt hs]
  rw [q1, q2]
  congr 1
  have hlost : (more || decide (R ≠ 0)) = true ↔ 0 < 2 * R + more.toNat := by
    cases more <;> simp <;> omega
  refine ite_iff ?_
  rw [hlost]
  have h4 : X % 4 = 0 ∨ X % 4 = 1 ∨ X % 4 = 2 ∨ X % 4 = 3 := by omega
  have hs2 : 2 * R + more.toNat < 2 * P := by omega
  generalize X / 4 % 2 = odd
  generalize 2 * R + more.toNat = s at *
  clear hM q1 q2 hdm e8
  rcases h4 with h | h | h | h <;> rw [h] <;> omega

theorem rQ_one {N : Nat} {more : Bool} : rQ (N * 2) more = rne (2 * N + more.toNat) 2 := by
  unfold rQ rUp rne
  have hm : more.toNat ≤ 1 := by cases more <;> simp
  have hm1 : more = true ↔ more.toNat = 1 := by cases more <;> simp
  have q1 : (2 * N + more.toNat) / 2 ^ 2 = N * 2 / 4 := by omega
  have q2 : (2 * N + more.toNat) % 2 ^ 2 = N * 2 % 4 + more.toNat := by omega
  rw [q1, q2]
  congr 1
  refine ite_iff ?_
  rw [hm1]
  have : N * 2 % 4 = 0 ∨ N * 2 % 4 = 2 := by omega
  rcases this with h | h <;> rw [h] <;> omega
theorem rQ_up {N k : Nat} : rQ (N * 2 ^ (k + 2)) false = N * 2 ^ k := by
  have e : N * 2 ^ (k + 2) = 4 * (N * 2 ^ k) := by rw [Nat.pow_add]; grind
  unfold rQ rUp
  rw [e]
  have h1 : 4 * (N * 2 ^ k) % 4 = 0 := by omega
  have h2 : 4 * (N * 2 ^ k) / 4 = N * 2 ^ k := by omega
  rw [h1, h2]
  simp

/-- What the reference's Round comes to: the rung of the number, or a little more. -/
theorem round_rung (N n g : Nat) (exp drop : Int) (more : Bool) (h1 : 2 ^ n ≤ 2 * N) (h2 : 2 * N < 2 ^ (n + 1)) (hd : drop = max ((n : Int) - 53) (-1074 - exp)) (hg : 0 ≤ exp + 1073 + g) (hmore : more = true → 54 ≤ n) :
    rung g ((2 * N + more.toNat) * 2 ^ (exp + 1073 + g).toNat) = min ((exp + drop + 1074).toNat * 4503599627370496 + rQ (rX N drop) (rLost N drop more)) 9218868437227405312 ∧
      rQ (rX N drop) (rLost N drop more) ≤ 9007199254740992 ∧ (-1074 < exp + drop → 4503599627370496 ≤ rQ (rX N drop) (rLost N drop more)) ∧ rX N drop < 36028797018963968 := by
  have hm : more.toNat ≤ 1 := by cases more <;> simp
  have b1 : 2 ^ n ≤ 2 * N + more.toNat := by omega
  have b2 : 2 * N + more.toNat < 2 ^ (n + 1) := by
    have : 2 ^ (n + 1) = 2 * 2 ^ n := Nat.pow_succ'
    omega
  obtain ⟨E, hE⟩ := Int.eq_ofNat_of_zero_le hg
  rw [hE, Int.toNat_natCast]
  have hlow : lowest g ((2 * N + more.toNat) * 2 ^ E) = (exp + drop + 1074 + g).toNat := by
    by_cases c : -1074 - exp ≤ (n : Int) - 53
    · rw [low_b b1 b2 (by omega)]; omega
    · rw [low_a b2 (by omega)]; omega
  have hq : rQ (rX N drop) (rLost N drop more) = rne ((2 * N + more.toNat) * 2 ^ E) (exp + drop + 1074 + g).toNat := by
    unfold rX rLost
    by_cases c : 2 ≤ drop
    · rw [if_pos c, if_pos c, rne_down (by omega), show (exp + drop + 1074 + (g : Int)).toNat - E = (drop - 2).toNat + 3 by omega, rQ_down]
    · rw [if_neg c, if_neg c]
      by_cases c1 : drop = 1
      · rw [show (2 - drop).toNat = 1 by omega, Nat.pow_one, rQ_one, rne_down (by omega), show (exp + drop + 1074 + (g : Int)).toNat - E = 2 by omega]
      · have hf : more = false := by
          cases more
          · rfl
          · have := hmore rfl; omega
        rw [hf]
        rw [show (2 - drop).toNat = (-drop).toNat + 2 by omega, rQ_up, Bool.toNat_false, Nat.add_zero]
        by_cases c2 : drop = 0
        · rw [rne_down (by omega), show (exp + drop + 1074 + (g : Int)).toNat - E = 1 by omega, c2]
          have := rne_exact N 1
          rw [Nat.mul_comm] at this
          simp only [Nat.pow_one] at this
          rw [this]; simp
        · obtain ⟨j, hj⟩ : ∃ j, (-drop).toNat = j + 1 := ⟨(-drop).toNat - 1, by omega⟩
          rw [rne_up (by omega), show E - (exp + drop + 1074 + (g : Int)).toNat = j by omega, hj, Nat.pow_succ']
          grind
  refine ⟨?_, ?_, ?_, ?_⟩
  · unfold rung
    rw [hlow, hq, show (exp + drop + 1074 + (g : Int)).toNat - g = (exp + drop + 1074).toNat by omega]
  · rw [hq]
    have hs := (lowest_spec g ((2 * N + more.toNat) * 2 ^ E)).2.1
    rw [hlow] at hs
    exact rne_le hs
  · intro hc
    rw [hq]
    have hs := (lowest_spec g ((2 * N + more.toNat) * 2 ^ E)).2.2
    rw [hlow] at hs
    exact rne_ge (hs (by omega))
  · unfold rX
    have hN : N < 2 ^ n := by have : 2 ^ (n + 1) = 2 * 2 ^ n := Nat.pow_succ'; omega
    by_cases c : 2 ≤ drop
    · rw [if_pos c]
      refine (Nat.div_lt_iff_lt_mul (Nat.two_pow_pos _)).2 ?_
      rw [show (36028797018963968 : Nat) = 2 ^ 55 from by decide, ← Nat.pow_add]
      exact Nat.lt_of_lt_of_le hN (Nat.pow_le_pow_right (by decide) (by omega))
    · rw [if_neg c, show (36028797018963968 : Nat) = 2 ^ 55 from by decide]
      refine Nat.lt_of_lt_of_le (scaled_lt hN) (Nat.pow_le_pow_right (by decide) (by omega))

end Go.Proofs.YtjkedocppbcncaaDoor

/-
  The walks of layer 1's small functions: what each call answers; the world is as it was.
-/
namespace Go.Proofs.YtjkedocppbcncaaDoor
set_option maxRecDepth 100000
open Go.RowKit Flo

theorem frombits_run (a : Int) (w : World) : (callFunc 75 #[.int .u64 a]).run Tryd.prog w = .ok (.value (.float .f64 a.toNat)) w :=
  run_callFunc_extern (e := Extern.MathFloatBits.float64frombits) Tryd.func75 (by kernel_rfl) (by kernel_rfl) (by kernel_rfl) (by kernel_rfl) _ w

theorem float_any (a : Int) (w : World) : Calls Tryd.prog 62 #[.int .u64 a] w fun e w' => e = .returned (.float .f64 a.toNat) ∧ w' = w := by
  have hf := frombits_run a
  go_enter Tryd.func62, Tryd.ntmps62
  go_wp2
  go_ret
  exact ⟨rfl, rfl⟩

theorem isNaN_any (a : Int) (w : World) (h : U64 a) : Calls Tryd.prog 63 #[.int .u64 a] w fun e w' => e = .returned (.bool (nanB a)) ∧ w' = w := by
  have ht := ne_test h h
  rw [equalB_self, Bool.not_not] at ht
  rw [← ht]
  clear ht
  go_enter Tryd.func63, Tryd.ntmps63
  go_wp2_with (go_at_call 62; refine (float_any _ _).mono ?_; rintro e w' ⟨rfl, rfl⟩)
  go_ret
  exact ⟨rfl, rfl⟩

theorem equal_any (a b : Int) (w : World) (ha : U64 a) (hb : U64 b) : Calls Tryd.prog 61 #[.int .u64 a, .int .u64 b] w fun e w' => e = .returned (.bool (equalB a b)) ∧ w' = w := by
  rw [← eq_test ha hb]
  go_enter Tryd.func61, Tryd.ntmps61
  go_wp2_with (go_at_call 62; refine (float_any _ _).mono ?_; rintro e w' ⟨rfl, rfl⟩)
  go_ret
  exact ⟨rfl, rfl⟩

theorem canon_any (a : Int) (w : World) (h : U64 a) : Calls Tryd.prog 53 #[.int .u64 a] w fun e w' => e = .returned (.int .u64 (canonZ a)) ∧ w' = w := by
  cases hn : nanB a
  · have e : canonZ a = a := by unfold canonZ; rw [hn]; rfl
    rw [e]
    go_enter Tryd.func53, Tryd.ntmps53
    go_wp2_with (go_at_call 63; refine (isNaN_any _ _ h).mono ?_; rintro e w' ⟨rfl, rfl⟩)
    go_ret
    exact ⟨rfl, rfl⟩
  · have e : canonZ a = 9221120237041090560 := by unfold canonZ; rw [hn]; rfl
    rw [e]
    go_enter Tryd.func53, Tryd.ntmps53
    go_wp2_with (go_at_call 63; refine (isNaN_any _ _ h).mono ?_; rintro e w' ⟨rfl, rfl⟩)
    go_ret
    exact ⟨rfl, rfl⟩

theorem abs_any (a : Int) (w : World) (h : U64 a) : Calls Tryd.prog 48 #[.int .u64 a] w fun e w' => e = .returned (.int .u64 (absZ a)) ∧ w' = w := by
  cases hn : nanB a
  · have e : absZ a = bits .andNot .u64 a 9223372036854775808 := by unfold absZ; rw [hn, andNot_sign a h]; rfl
    rw [e]
    clear e
    go_enter Tryd.func48, Tryd.ntmps48
    go_wp2_with (go_at_call 63; refine (isNaN_any _ _ h).mono ?_; rintro e w' ⟨rfl, rfl⟩)
    go_ret
    exact ⟨rfl, rfl⟩
  · have e : absZ a = 9221120237041090560 := by unfold absZ; rw [hn]; rfl
    rw [e]
    go_enter Tryd.func48, Tryd.ntmps48
    go_wp2_with (go_at_call 63; refine (isNaN_any _ _ h).mono ?_; rintro e w' ⟨rfl, rfl⟩)
    go_ret
    exact ⟨rfl, rfl⟩

end Go.Proofs.YtjkedocppbcncaaDoor

/-
  The walks of Kind and Before.
-/
namespace Go.Proofs.YtjkedocppbcncaaDoor
set_option maxRecDepth 100000
open Go.RowKit Flo

theorem kind_tests {a : Int} (h : U64 a) :
    (FloatKind.f64.format.order a.toNat a.toNat != some .eq) = nanB a ∧
    (FloatKind.f64.format.order a.toNat 0 == some .eq) = equalB a 0 ∧
    (FloatKind.f64.format.order a.toNat 18442240474082181119 == some .lt) = lessB a 18442240474082181119 ∧
    (FloatKind.f64.format.order a.toNat 9218868437227405311 == some .gt) = lessB 9218868437227405311 a ∧
    (FloatKind.f64.format.order a.toNat 9227875636482146304 == some .gt) = lessB 9227875636482146304 a ∧
    (FloatKind.f64.format.order a.toNat 4503599627370496 == some .lt) = lessB a 4503599627370496 := by
  refine ⟨?_, ?_, ?_, ?_, ?_, ?_⟩
  · rw [ne_test h h, equalB_self, Bool.not_not]
  · exact eq_test h (b := 0) ⟨by decide, by decide⟩
  · exact lt_test h (b := 18442240474082181119) ⟨by decide, by decide⟩
  · exact gt_test h (b := 9218868437227405311) ⟨by decide, by decide⟩
  · exact gt_test h (b := 9227875636482146304) ⟨by decide, by decide⟩
  · exact lt_test h (b := 4503599627370496) ⟨by decide, by decide⟩

set_option maxHeartbeats 400000 in
theorem kind_any (a : Int) (w : World) (h : U64 a) : Calls Tryd.prog 47 #[.int .u64 a] w fun e w' => e = .returned (.int .i64 (kindZ a)) ∧ w' = w := by
  obtain ⟨t1, t2, t3, t4, t5, t6⟩ := kind_tests h
  have n0 : nanB a = decide (9218868437227405312 < mag a) := rfl
  obtain ⟨h0, h1⟩ := h
  by_cases c1 : 9218868437227405312 < mag a
  · have e : kindZ a = 4 := by unfold kindZ; rw [if_pos c1]
    rw [n0, decide_eq_true c1] at t1
    rw [e]
    clear e t2 t3 t4 t5 t6 n0 c1
    go_enter Tryd.func47, Tryd.ntmps47
    go_wp2_with (go_at_call 62; refine (float_any _ _).mono ?_; rintro e w' ⟨rfl, rfl⟩)
    go_ret
    exact ⟨rfl, rfl⟩
  · rw [n0, decide_eq_false c1] at t1
    rw [decide_eq_false c1] at n0
    by_cases c2 : mag a = 0
    · have e : kindZ a = 0 := by unfold kindZ; rw [if_neg c1, if_pos c2]
      have q : equalB a 0 = true := by
        unfold equalB; rw [n0]; unfold nanB mag at *; unfold sv; simp; omega
      rw [q] at t2
      rw [e]
      clear e t3 t4 t5 t6 n0 c1 c2 q
      go_enter Tryd.func47, Tryd.ntmps47
      go_wp2_with (go_at_call 62; refine (float_any _ _).mono ?_; rintro e w' ⟨rfl, rfl⟩)
      go_ret
      exact ⟨rfl, rfl⟩
    · have q : equalB a 0 = false := by
        unfold equalB; rw [n0]; unfold nanB mag at *; unfold sv; simp; omega
      rw [q] at t2
      by_cases c3 : mag a = 9218868437227405312
      · have e : kindZ a = 3 := by unfold kindZ; rw [if_neg c1, if_neg c2, if_pos c3]
        rw [e]
        by_cases c4 : 9223372036854775808 ≤ a
        · have q3 : lessB a 18442240474082181119 = true := by
            unfold lessB; rw [n0]; unfold nanB mag at *; unfold sv; simp; omega
          rw [q3] at t3
          clear e t4 t5 t6 n0 c1 c2 c3 c4 q q3
          go_enter Tryd.func47, Tryd.ntmps47
          go_wp2_with (go_at_call 62; refine (float_any _ _).mono ?_; rintro e w' ⟨rfl, rfl⟩)
          go_ret
          exact ⟨rfl, rfl⟩
        · have q3 : lessB a 18442240474082181119 = false := by
            unfold lessB; rw [n0]; unfold nanB mag at *; unfold sv; simp; omega
          have q4 : lessB 9218868437227405311 a = true := by
            unfold lessB; rw [n0]; unfold nanB mag at *; unfold sv; simp; omega
          rw [q3] at t3
          rw [q4] at t4
          clear e t5 t6 n0 c1 c2 c3 c4 q q3 q4
          go_enter Tryd.func47, Tryd.ntmps47
          go_wp2_with (go_at_call 62; refine (float_any _ _).mono ?_; rintro e w' ⟨rfl, rfl⟩)
          go_ret
          exact ⟨rfl, rfl⟩
      · have q3 : lessB a 18442240474082181119 = false := by
          unfold lessB; rw [n0]; unfold nanB mag at *; unfold sv; simp; omega
        have q4 : lessB 9218868437227405311 a = false := by
          unfold lessB; rw [n0]; unfold nanB mag at *; unfold sv; simp; omega
        rw [q3] at t3
        rw [q4] at t4
        by_cases c4 : mag a < 4503599627370496
        · have e : kindZ a = 1 := by unfold kindZ; rw [if_neg c1, if_neg c2, if_neg c3, if_pos c4]
          have q5 : lessB 9227875636482146304 a = true := by
            unfold lessB; rw [n0]; unfold nanB mag at *; unfold sv; simp; omega
          have q6 : lessB a 4503599627370496 = true := by
            unfold lessB; rw [n0]; unfold nanB mag at *; unfold sv; simp; omega
          rw [q5] at t5
          rw [q6] at t6
          rw [e]
          clear e n0 c1 c2 c3 c4 q q3 q4 q5 q6
          go_enter Tryd.func47, Tryd.ntmps47
          go_wp2_with (go_at_call 62; refine (float_any _ _).mono ?_; rintro e w' ⟨rfl, rfl⟩)
          go_ret
          exact ⟨rfl, rfl⟩
        · have e : kindZ a = 2 := by unfold kindZ; rw [if_neg c1, if_neg c2, if_neg c3, if_neg c4]
          rw [e]
          by_cases c5 : 9223372036854775808 ≤ a
          · have q5 : lessB 9227875636482146304 a = false := by
              unfold lessB; rw [n0]; unfold nanB mag at *; unfold sv; simp; omega
            rw [q5] at t5
            clear e t6 n0 c1 c2 c3 c4 c5 q q3 q4 q5
            go_enter Tryd.func47, Tryd.ntmps47
            go_wp2_with (go_at_call 62; refine (float_any _ _).mono ?_; rintro e w' ⟨rfl, rfl⟩)
            go_ret
            exact ⟨rfl, rfl⟩
          · have q5 : lessB 9227875636482146304 a = true := by
              unfold lessB; rw [n0]; unfold nanB mag at *; unfold sv; simp; omega
            have q6 : lessB a 4503599627370496 = false := by
              unfold lessB; rw [n0]; unfold nanB mag at *; unfold sv; simp; omega
            rw [q5] at t5
            rw [q6] at t6
            clear e n0 c1 c2 c3 c4 c5 q q3 q4 q5 q6
            go_enter Tryd.func47, Tryd.ntmps47
            go_wp2_with (go_at_call 62; refine (float_any _ _).mono ?_; rintro e w' ⟨rfl, rfl⟩)
            go_ret
            exact ⟨rfl, rfl⟩

end Go.Proofs.YtjkedocppbcncaaDoor

/-
  math/bits.Len64, walked.
-/
namespace Go.Proofs.YtjkedocppbcncaaDoor
set_option maxRecDepth 100000
open Go.RowKit Flo

theorem len8_get : ∀ n : Fin 256, Lib.len8tab[n.val]!.toNat = Lib.bitLen n.val := by decide +kernel
theorem len8_any (i : Nat) (h : i < Lib.len8tab.size) : Lib.len8tab[i].toNat = Lib.bitLen i := by
  have e : Lib.len8tab.size = 256 := by decide +kernel
  have := len8_get ⟨i, by omega⟩
  rw [← this, getElem!_pos]

theorem len_close (x k : Nat) (c : Int) (hx : x < 18446744073709551616) (h2 : x / 2 ^ k < 256) (h : k = 0 ∨ 2 ^ k ≤ x) (hk : k ≤ 56) (i : Nat) (hi : i < Lib.len8tab.size) (ei : i = x / 2 ^ k) (hc : c = k) :
    wrap64 (c + wrap64 (Lib.len8tab[i].toNat : Int)) = (Lib.bitLen x : Int) := by
  subst ei
  subst hc
  rw [len8_any]
  have l8 := Lib.bitLen_le8 ⟨x / 2 ^ k, h2⟩
  have s : Lib.bitLen x = k + Lib.bitLen (x / 2 ^ k) := by
    rcases h with h | h
    · subst h; simp
    · exact Lib.bitLen_shift k x h hx
  simp only at l8
  unfold wrap64
  omega

end Go.Proofs.YtjkedocppbcncaaDoor
