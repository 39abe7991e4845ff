/-
  HeapSizes
-/
import Derived.Test.YtjkedocppbcncaaDoorY25

/-
  HeapSizes: the law, walked.
-/
namespace Go.Proofs.YtjkedocppbcncaaDoor
set_option maxRecDepth 100000
open Go.RowKit Flo

/-- How far the old row is gone through. -/
structure S3 (w wr : World) (u : Nat) (v9 v12 : Value) (L F : List Int) (G : List Int) (Z : Nat → Prop) : Prop where
  nt : NT wr w.heap.size w.heap.size u F Z
  r9 : HR wr w.heap.size v9 L
  r12 : HR wr w.heap.size v12 G
  f9 : ∀ g, v9.ownBlock = some g → ¬ Z g
  f12 : ∀ g, v12.ownBlock = some g → ¬ Z g
  ap : ∀ g, v9.ownBlock = some g → v12.ownBlock ≠ some g
  low : Below w.heap.size w wr
theorem S3.append {w wr w' : World} {u : Nat} {v9 v12 : Value} {L F G : List Int} {Z : Nat → Prop} {z : Int} {g cap : Nat} (h : S3 w wr u v9 v12 L F G Z) (two : 1 < w.heap.size)
    (ho : w'.ownsRow w.heap.size 3 1 (.slice (some ⟨g, 0, none⟩) (G.length + 1) cap) (G.length + 1) ((G.map fun z => .int .i64 z) ++ [.int .i64 z])) (hg : wr.grownBy w' v12.ownBlock) (hgg : v12.ownBlock = some g ∨ g = wr.heap.size) :
    S3 w w' u v9 (.slice (some ⟨g, 0, none⟩) (G.length + 1) cap) L F (G ++ [z]) Z := by
  obtain ⟨r1, r2, r3, r4⟩ := Bs.append (z := z) h.nt h.r12 h.f12 h.low two ho hg hgg
  refine ⟨r1, h.r9.wx (Wx.of_grown hg) (fun k hk c => h.ap k hk c), r2, h.f9, r3, fun k hk c => ?_, r4⟩
  have e : g = k := by simpa [Value.ownBlock] using c
  subst e
  rcases hgg with q | q
  · exact h.ap g hk q
  · have := (World.ownsRow.lt h.r9 g hk).2; omega
theorem S3.below {w wr w' : World} {u : Nat} {v9 v12 : Value} {L F G : List Int} {Z : Nat → Prop} (h : S3 w wr u v9 v12 L F G Z) (k : Below wr.heap.size wr w') : S3 w w' u v9 v12 L F G Z :=
  ⟨h.nt.below k, h.r9.below k, h.r12.below k, h.f9, h.f12, h.ap, h.low.trans (k.mono h.low.size)⟩
theorem filter_snoc (l : List Int) (p : Nat) (h : p < l.length) (f : Int → Bool) : (l.take (p + 1)).filter f = (l.take p).filter f ++ (if f l[p] then [l[p]] else []) := by
  rw [List.take_succ_eq_append_getElem h, List.filter_append, List.filter_cons, List.filter_nil]

theorem pigeonI : ∀ (k : Nat) (l : List Int), (∀ p : Nat, p < k → ((p : Int) + 1) ∈ l) → k ≤ l.length
  | 0, _, _ => Nat.zero_le _
  | k + 1, l, h => by
    have he := h k (by omega)
    have h1 := pigeonI k (l.filter fun x => decide (x ≠ (k : Int) + 1)) (fun p hp => List.mem_filter.2 ⟨h p (by omega), decide_eq_true (by omega)⟩)
    have h2 : (l.filter fun x => decide (x ≠ (k : Int) + 1)).length < l.length := by
      refine Nat.lt_of_le_of_ne (List.length_filter_le _ _) (fun c => ?_)
      have h3 := List.length_filter_eq_length_iff.1 c _ he
      exact of_decide_eq_true h3 rfl
    omega
theorem take_snoc' (l : List Int) (i : Nat) (h : i < l.length) : l.take (i + 1) = l.take i ++ [l[i]] := List.take_succ_eq_append_getElem h

set_option maxHeartbeats 4000000 in
theorem heapSizes_walk (ks gs : List Int) (v0 v1 : Value) (w : World) (db : Db w) (h0 : I16 w v0 ks) (h1 : I16 w v1 gs) :
    Calls Tryd.prog 4 #[v0, v1] w fun e w' => e = .returned (.bool true) ∧ Below w.heap.size w w' := by
  have two : 1 < w.heap.size := World.block_lt_of_cell? w ⟨1, 0, none⟩ (db 0 (by decide))
  obtain ⟨a0, cap0, rfl, hf0⟩ := h0.form
  obtain ⟨a1, cap1, rfl, hf1⟩ := h1.form
  have HF0 : Hid (I16 w (.slice a0 ks.length cap0) ks ∧ (0 < ks.length → ∃ xa : Addr, a0 = some xa ∧ xa.block < w.heap.size ∧ ∀ j (hj : j < ks.length), w.cell? (xa.add j) = some (.int .i16 ks[j]))) := ⟨h0, hf0⟩
  have HF1 : Hid (I16 w (.slice a1 gs.length cap1) gs ∧ (0 < gs.length → ∃ xa : Addr, a1 = some xa ∧ xa.block < w.heap.size ∧ ∀ j (hj : j < gs.length), w.cell? (xa.add j) = some (.int .i16 gs[j]))) := ⟨h1, hf1⟩
  have hl0 := h0.len
  have hl1 := h1.len
  clear h0 h1 hf0 hf1
  obtain ⟨n0, hn0⟩ : ∃ n, n = ks.length := ⟨_, rfl⟩
  obtain ⟨n1, hn1⟩ : ∃ n, n = gs.length := ⟨_, rfl⟩
  have HN0 : Hid (n0 = ks.length) := hn0
  have HN1 : Hid (n1 = gs.length) := hn1
  rw [← hn0] at hl0 ⊢
  rw [← hn1] at hl1 ⊢
  clear hn0 hn1
  have H1 := hnew_any 2000 w (by decide) db
  have HNum : Hid (∀ (k : Int) w, -32768 ≤ k → k ≤ 32767 → Calls Tryd.prog 13 #[.int .i64 k] w fun e w' => e = .returned (.agg #[.int .i64 3, .int .u64 (fromZ k), .string ⟨#[]⟩, .int .i64 0]) ∧ Below w.heap.size w w') := fun k w a b => by
    have := number_any k w (by omega) (by omega)
    rw [canon_from (by omega)] at this
    exact this
  have HN1v : Hid (∀ w, Calls Tryd.prog 13 #[.int .i64 1] w fun e w' => e = .returned (.agg #[.int .i64 3, .int .u64 4607182418800017408, .string ⟨#[]⟩, .int .i64 0]) ∧ Below w.heap.size w w') := fun w => by
    have := number_any 1 w (by decide) (by decide)
    rw [canon_1] at this
    exact this
  obtain ⟨i0, hi0⟩ : ∃ i, Tryd.prog.info? 3 = some i := by
    cases hq : Tryd.prog.info? 3 with
    | none => have := infoInt; rw [hq] at this; cases this
    | some q => exact ⟨q, rfl⟩
  have hinfo := infoInt
  rw [hi0] at hinfo
  simp only [Option.map_some, Option.some.injEq, Prod.mk.injEq] at hinfo
  obtain ⟨hz0, hz1, hz2⟩ := hinfo
  have HDB : Hid (Db w) := db
  clear db
  go_enter Tryd.func4, Tryd.ntmps4
  go_wp2_with fail
  refine H1.mono ?_
  rintro e w1 ⟨rfl, hv1, hb1⟩
  have HT := table_hv hv1 (by decide)
  have HB1 : Hid (Below w.heap.size w w1) := hb1
  clear H1 hv1 hb1
  go_wp2_with fail
  refine HT.mono ?_
  rintro e w2 ⟨rfl, R2, Z2, hv2, hx2, hz2'⟩
  have HB2 : Hid (Below w.heap.size w w2) := HB1.out.trans (hx2.below (fun k hk => by rw [hk]; exact Nat.le_refl _) HB1.out.size)
  have HNT : Hid (NT w2 w.heap.size w.heap.size 1 [] Z2) := ⟨1, R2, tabO w1.heap.size, w1.heap.size, Nat.le_refl _, hv2, rfl, fun z _ => ⟨fun ⟨e, he, _⟩ => (by cases he), fun c => (by cases c)⟩, fun k hk => by
    rcases hz2' k hk with c | c
    · rw [c]; exact Nat.le_refl _
    · have := HB1.out.size; omega⟩
  clear HT hv2 hx2 hz2' HB1
  go_wp2_with fail
  go_loopg [9, 10] 300 (fun k t9 t10 wr => ∃ (i : Nat) (a9 : Option Addr) (c9 : Nat), t9 = .slice a9 i c9 ∧ t10 = .int .i64 (i : Int) ∧ i ≤ n0 ∧ i ≤ 300 ∧ Hid (k = 300 - i ∧ ∃ Z, Bs w wr w.heap.size w.heap.size (1 + i) (.slice a9 i c9) (ks.take i) Z))
  case atStart =>
    have hba : Below w2.heap.size w2 (w2.alloc (.cells #[] 3)) := (Below.refl _ _).alloc (Nat.le_refl _) _
    refine ⟨0, _, _, rfl, rfl, Nat.zero_le _, by omega, ⟨rfl, Z2, HNT.out.below hba, ?_, fun g hg c => ?_, HB2.out.trans (hba.mono HB2.out.size), two⟩⟩
    · exact World.ownsRow_lit (base := w.heap.size) (e := 3) (size := 1) w2 #[] 0 HB2.out.size (by decide) rfl
    · have e : w2.heap.size = g := by simpa [Value.ownBlock] using hg
      obtain ⟨used, R, x, tb, q1, q2, q3, q4, q5⟩ := HNT.out
      have := q2.lt g c
      omega
  case round =>
    obtain ⟨i, a9, c9, rfl, rfl, hi, hi3, HI⟩ := hrel
    by_cases c : i < n0 ∧ i < 300
    · obtain ⟨c1, c2⟩ := c
      have c1i : (i : Int) < (n0 : Int) := by omega
      have c2i : (i : Int) < 300 := by omega
      have hil : i < ks.length := by rw [← HN0.out]; exact c1
      obtain ⟨xa, rfl, hab, hc⟩ := HF0.out.2 (by omega)
      have hck := hc i hil
      obtain ⟨kk, hkk⟩ : ∃ kk, kk = ks[i] := ⟨_, rfl⟩
      obtain ⟨k1, k2⟩ := HF0.out.1.fit ks[i] (List.getElem_mem hil)
      rw [← hkk] at hck k1 k2
      have HKK : Hid (ks.take (i + 1) = ks.take i ++ [kk]) := by rw [hkk]; exact take_snoc' ks i hil
      have HLT : Hid ((ks.take i).length = i) := by show (ks.take i).length = i; rw [List.length_take]; omega
      obtain ⟨hk0, Z, hbs⟩ := HI.out
      have HBS : Hid (Bs w wr w.heap.size w.heap.size (1 + i) (.slice a9 i c9) (ks.take i) Z) := hbs
      have HK0 : Hid (gk = 300 - i) := hk0
      have HCK : Hid (w.cell? (xa.add i) = some (.int .i16 kk)) := hck
      have hcr : wr.cell? (xa.add i) = some (.int .i16 kk) := (hbs.low.cell (p := xa.add i) (add_blk xa i hab)).trans hck
      clear hc hkk hk0 hbs HI hck
      go_wp2_with fail
      refine (HNum.out kk _ k1 k2).mono ?_
      rintro e w3 ⟨rfl, hb3⟩
      have HB3 : Hid (Bs w w3 w.heap.size w.heap.size (1 + i) (.slice a9 i c9) (ks.take i) Z) := HBS.out.below hb3
      clear hb3 HBS hcr
      go_wp2_with fail
      refine (HN1v.out _).mono ?_
      rintro e w4 ⟨rfl, hb4⟩
      have HB4 : Hid (Bs w w4 w.heap.size w.heap.size (1 + i) (.slice a9 i c9) (ks.take i) Z) := HB3.out.below hb4
      have HS := nt_set HB4.out.nt kk (by omega) (by omega)
      clear hb4 HB3
      go_wp2_with fail
      refine HS.mono ?_
      rintro e w5 ⟨rfl, Z5, hn5, hx5, hz5⟩
      obtain ⟨hr5, hf5, hl5⟩ := HB4.out.set hx5 hz5
      have hcr : w5.cell? (xa.add i) = some (.int .i16 kk) := (hl5.cell (p := xa.add i) (add_blk xa i hab)).trans HCK.out
      have H5 : Hid (NT w5 w.heap.size w.heap.size (1 + i + 1) (ks.take i ++ [kk]) Z5 ∧ HR w5 w.heap.size (.slice a9 i c9) (ks.take i) ∧ (∀ g, (Value.slice a9 i c9).ownBlock = some g → ¬ Z5 g) ∧ Below w.heap.size w w5) := ⟨hn5, hr5, hf5, hl5⟩
      have hown : (w5.alloc (.cells #[.int .i64 kk] 3)).ownsRow w.heap.size 3 1 (.slice a9 i c9) i ((ks.take i).map fun z => .int .i64 z) := by
        have := World.ownsRow.alloc hr5 (.cells #[.int .i64 kk] 3)
        rw [HLT.out] at this
        exact this
      have hs5 : w.heap.size ≤ w5.heap.size := hl5.size
      clear HS HB4 hn5 hx5 hz5 hr5 hf5 hl5
      go_wp2_with (at_builtin; refine wpList_append_lies _ rfl _ _ 44 rfl w.heap.size 3 i0 _ 1 8 Tryd.underlying44 hi0 hz0 hz1 hz2 rfl (by decide) _ i ((ks.take i).map fun z => .int .i64 z) rfl hown ⟨w5.heap.size, 0, none⟩ 1 1 [.int .i64 kk] rfl rfl (World.news_of_block (w := w5.alloc (.cells #[.int .i64 kk] 3)) (B := w5.heap.size) (cs := #[.int .i64 kk]) (t := 3) (fr := (0, 0)) (heap_alloc_new _ _)) (by intro u hu; simp at hu; rw [hu]; rfl) (by decide) (by unfold maxLen; omega) (by omega) (by simp; omega) _ rfl ?_)
      intro g2 cap2 w6 q1 q2 q3 q4
      have HB6 : Hid (Bs w w6 w.heap.size w.heap.size (1 + (i + 1)) (.slice (some ⟨g2, 0, none⟩) (i + 1) cap2) (ks.take (i + 1)) Z5) := by
        obtain ⟨m1, m2, m3, m4⟩ := H5.out
        have hba : Below w5.heap.size w5 (w5.alloc (.cells #[.int .i64 kk] 3)) := (Below.refl _ _).alloc (Nat.le_refl _) _
        obtain ⟨r1, r2, r3, r4⟩ := Bs.append (z := kk) (m1.below hba) (m2.below hba) m3 (m4.trans (hba.mono hs5)) two (by rw [HLT.out, List.map_take]; exact q1) q2 (by rcases q3 with c | c; exact Or.inl c; exact Or.inr (by rw [c]; simp))
        rw [HLT.out] at r2 r3
        rw [HKK.out]
        exact ⟨r1, r2, r3, r4, two⟩
      clear q1 q2 q3 q4 H5 hown hcr
      go_wp2_with fail
      go_roundg (300 - (i + 1))
      case measure => have := HK0.out; omega
      case rel => exact ⟨i + 1, _, _, rfl, by go_num, by omega, by omega, ⟨rfl, Z5, HB6.out⟩⟩
    · have hlen : (ks.take i).length = i := by rw [List.length_take, ← HN0.out]; omega
      obtain ⟨_, Z, hbs⟩ := HI.out
      have HBS : Hid (∃ Z u, u ≤ 301 ∧ Bs w wr w.heap.size w.heap.size u (.slice a9 i c9) (ks.take i) Z) := ⟨Z, 1 + i, by omega, hbs⟩
      obtain ⟨L, hL⟩ : ∃ L, L = ks.take i := ⟨_, rfl⟩
      rw [← hL] at HBS hlen
      have HLL : Hid (L.length = i) := hlen
      clear hbs HI hL hlen HF0 HNT HB2
      have hcs : ¬ (i : Int) < (n0 : Int) ∨ ¬ (i : Int) < 300 := by omega
      clear c
      by_cases c1 : (i : Int) < (n0 : Int)
      · have c2 : ¬ (i : Int) < 300 := by omega
        clear hcs
        go_wp2_with fail
        go_loopg [9, 11] 300 (fun k t9 t11 wr => ∃ (j m : Nat) (a9 : Option Addr) (c9 : Nat), t9 = .slice a9 m c9 ∧ t11 = .int .i64 (j : Int) ∧ j ≤ n1 ∧ j ≤ 300 ∧ m ≤ 300 ∧ Hid (k = 300 - j ∧ ∃ L : List Int, L.length = m ∧ ∃ Z u, u ≤ 301 ∧ Bs w wr w.heap.size w.heap.size u (.slice a9 m c9) L Z))
        case atStart => exact ⟨0, i, a9, c9, rfl, rfl, Nat.zero_le _, by omega, by omega, ⟨rfl, L, HLL.out, HBS.out⟩⟩
        case round =>
          clear HBS HLL
          obtain ⟨j, m, a9, c9, rfl, rfl, hj, hj3, hm3, HI⟩ := hrel
          by_cases c : j < n1 ∧ j < 300
          · obtain ⟨d1, d2⟩ := c
            have d1i : (j : Int) < (n1 : Int) := by omega
            have d2i : (j : Int) < 300 := by omega
            have hjl : j < gs.length := by rw [← HN1.out]; exact d1
            obtain ⟨xa, rfl, hab, hc⟩ := HF1.out.2 (by omega)
            have hck := hc j hjl
            obtain ⟨kk, hkk⟩ : ∃ kk, kk = gs[j] := ⟨_, rfl⟩
            obtain ⟨k1, k2⟩ := HF1.out.1.fit gs[j] (List.getElem_mem hjl)
            rw [← hkk] at hck k1 k2
            obtain ⟨hk0, L, hLm, Z, u, hu, hbs⟩ := HI.out
            have HLM : Hid (L.length = m) := hLm
            have HBS : Hid (Bs w wr w.heap.size w.heap.size u (.slice a9 m c9) L Z) := hbs
            have HK0 : Hid (gk = 300 - j) := hk0
            have HCK : Hid (w.cell? (xa.add j) = some (.int .i16 kk)) := hck
            have hcr : wr.cell? (xa.add j) = some (.int .i16 kk) := (hbs.low.cell (p := xa.add j) (add_blk xa j hab)).trans hck
            clear hc hkk hk0 hbs HI hck hLm
            go_wp2_with fail
            refine (HNum.out kk _ k1 k2).mono ?_
            rintro e w3 ⟨rfl, hb3⟩
            have HB3 : Hid (Bs w w3 w.heap.size w.heap.size u (.slice a9 m c9) L Z) := HBS.out.below hb3
            have HS := nt_nil HB3.out.nt kk (by omega)
            clear hb3 HBS hcr
            go_wp2_with fail
            refine HS.mono ?_
            rintro e w5 ⟨rfl, Z5, hn5, hx5, hz5⟩
            obtain ⟨hr5, hf5, hl5⟩ := HB3.out.set hx5 hz5
            have hs5 : w.heap.size ≤ w5.heap.size := hl5.size
            have H5 : Hid (NT w5 w.heap.size w.heap.size u (L.filter fun z => decide (z ≠ kk)) Z5 ∧ HR w5 w.heap.size (.slice a9 m c9) L ∧ (∀ g, (Value.slice a9 m c9).ownBlock = some g → ¬ Z5 g) ∧ Below w.heap.size w w5) := ⟨hn5, hr5, hf5, hl5⟩
            clear HS HB3 hn5 hx5 hz5 hr5 hf5 hl5
            go_wp2_with fail
            go_loopg [12, 13] m (fun k t12 t13 wr => ∃ (p q : Nat) (a12 : Option Addr) (c12 : Nat), t12 = .slice a12 q c12 ∧ t13 = .int .i64 (p : Int) ∧ p ≤ m ∧ q ≤ p ∧ Hid (k = m - p ∧ ((L.take p).filter fun z => decide (z ≠ kk)).length = q ∧ S3 w wr u (.slice a9 m c9) (.slice a12 q c12) L (L.filter fun z => decide (z ≠ kk)) ((L.take p).filter fun z => decide (z ≠ kk)) Z5))
            case atStart =>
              obtain ⟨m1, m2, m3, m4⟩ := H5.out
              have hba : Below w5.heap.size w5 (w5.alloc (.cells #[] 3)) := (Below.refl _ _).alloc (Nat.le_refl _) _
              refine ⟨0, 0, _, _, rfl, rfl, Nat.zero_le _, Nat.le_refl _, ⟨by omega, rfl, m1.below hba, m2.below hba, ?_, m3, fun g hg c => ?_, fun g hg c => ?_, m4.trans (hba.mono hs5)⟩⟩
              · exact World.ownsRow_lit (base := w.heap.size) (e := 3) (size := 1) w5 #[] 0 hs5 (by decide) rfl
              · have e : w5.heap.size = g := by simpa [Value.ownBlock] using hg
                obtain ⟨used, R, x, tb, q1, q2, q3, q4, q5⟩ := m1
                have := q2.lt g c
                omega
              · have e : w5.heap.size = g := by simpa [Value.ownBlock] using c
                have := (World.ownsRow.lt m2 g hg).2
                omega
            case round =>
              clear H5
              obtain ⟨p, q, a12, c12, rfl, rfl, hp, hq, HJ⟩ := hrel
              by_cases d : p < m
              · have di : (p : Int) < (m : Int) := by omega
                obtain ⟨hk3, hlq, hs3⟩ := HJ.out
                have hpl : p < L.length := by rw [HLM.out]; exact d
                obtain ⟨a9', c9', he9, hf9⟩ := hs3.r9.form
                rw [HLM.out] at he9
                injection he9 with he9 _ hc99
                subst he9
                subst hc99
                obtain ⟨g9, rfl, hg9, hc9⟩ := hf9 (by omega)
                have hcp := hc9 p hpl
                have hcg : wr.cell? (xa.add j) = some (.int .i16 kk) := (hs3.low.cell (p := xa.add j) (add_blk xa j hab)).trans HCK.out
                obtain ⟨z, hz⟩ : ∃ z, z = L[p] := ⟨_, rfl⟩
                rw [← hz] at hcp
                have HFS : Hid ((L.take (p + 1)).filter (fun z => decide (z ≠ kk)) = (L.take p).filter (fun z => decide (z ≠ kk)) ++ (if decide (z ≠ kk) then [z] else [])) := by rw [hz]; exact filter_snoc L p hpl _
                have HS3 : Hid (S3 w wr u (.slice (some ⟨g9, 0, none⟩) m c9) (.slice a12 q c12) L (L.filter fun z => decide (z ≠ kk)) ((L.take p).filter fun z => decide (z ≠ kk)) Z5) := hs3
                have HK3 : Hid (gk = m - p) := hk3
                have HLQ : Hid (((L.take p).filter fun z => decide (z ≠ kk)).length = q) := hlq
                clear hc9 hz hs3 hk3 hlq HJ hf9
                by_cases ez : z = kk
                · have HFS2 : Hid ((L.take (p + 1)).filter (fun z => decide (z ≠ kk)) = (L.take p).filter (fun z => decide (z ≠ kk))) := by
                    show _ = _
                    rw [HFS.out, if_neg (by simp [ez]), List.append_nil]
                  subst ez
                  go_wp2_with fail
                  go_region
                  go_wp2_with fail
                  go_roundg (m - (p + 1))
                  case measure => have := HK3.out; omega
                  case rel =>
                    refine ⟨p + 1, q, a12, c12, rfl, by go_num, by omega, by omega, ⟨rfl, ?_, ?_⟩⟩
                    · rw [HFS2.out]; exact HLQ.out
                    · rw [HFS2.out]; exact HS3.out.below (Below.refl _ _).drew
                · have HFS2 : Hid ((L.take (p + 1)).filter (fun z => decide (z ≠ kk)) = (L.take p).filter (fun z => decide (z ≠ kk)) ++ [z]) := by
                    show _ = _
                    rw [HFS.out, if_pos (by simp [ez])]
                  go_wp2_with fail
                  go_region
                  obtain ⟨wd, hwd⟩ : ∃ wd, wd = wr.drew := ⟨_, rfl⟩
                  have HSD : Hid (S3 w wd u (.slice (some ⟨g9, 0, none⟩) m c9) (.slice a12 q c12) L (L.filter fun z => decide (z ≠ kk)) ((L.take p).filter fun z => decide (z ≠ kk)) Z5) := by rw [hwd]; exact HS3.out.below (Below.refl _ _).drew
                  have hcd : wd.cell? ⟨g9, p, none⟩ = some (.int .i64 z) := by rw [hwd]; exact hcp
                  rw [← hwd]
                  clear hwd HS3 hcp hcg
                  obtain ⟨G, hG⟩ : ∃ G, G = (L.take p).filter fun z => decide (z ≠ kk) := ⟨_, rfl⟩
                  rw [← hG] at HSD HLQ HFS2
                  clear hG HFS
                  have hown : (wd.alloc (.cells #[.int .i64 z] 3)).ownsRow w.heap.size 3 1 (.slice a12 q c12) q (G.map fun z => .int .i64 z) := by
                    have := World.ownsRow.alloc HSD.out.r12 (.cells #[.int .i64 z] 3)
                    rw [HLQ.out] at this
                    exact this
                  have hsd : w.heap.size ≤ wd.heap.size := HSD.out.low.size
                  go_wp2_with (at_builtin; refine wpList_append_lies _ rfl _ _ 44 rfl w.heap.size 3 i0 _ 1 8 Tryd.underlying44 hi0 hz0 hz1 hz2 rfl (by decide) _ q (G.map fun z => .int .i64 z) rfl hown ⟨wd.heap.size, 0, none⟩ 1 1 [.int .i64 z] rfl rfl (World.news_of_block (w := wd.alloc (.cells #[.int .i64 z] 3)) (B := wd.heap.size) (cs := #[.int .i64 z]) (t := 3) (fr := (0, 0)) (heap_alloc_new _ _)) (by intro u hu; simp at hu; rw [hu]; rfl) (by decide) (by unfold maxLen; omega) (by omega) (by simp; omega) _ rfl ?_)
                  intro g2 cap2 w6 q1 q2 q3 q4
                  have HS6 : Hid (S3 w w6 u (.slice (some ⟨g9, 0, none⟩) m c9) (.slice (some ⟨g2, 0, none⟩) (q + 1) cap2) L (L.filter fun z => decide (z ≠ kk)) (G ++ [z]) Z5) := by
                    have hba : Below wd.heap.size wd (wd.alloc (.cells #[.int .i64 z] 3)) := (Below.refl _ _).alloc (Nat.le_refl _) _
                    have := (HSD.out.below hba).append (z := z) two (by rw [HLQ.out]; exact q1) q2 (by rcases q3 with c | c; exact Or.inl c; exact Or.inr (by rw [c]; simp))
                    rw [HLQ.out] at this
                    exact this
                  clear q1 q2 q3 q4 hown HSD hcd
                  go_wp2_with fail
                  go_roundg (m - (p + 1))
                  case measure => have := HK3.out; omega
                  case rel =>
                    refine ⟨p + 1, q + 1, _, _, rfl, by go_num, by omega, by omega, ⟨rfl, ?_, ?_⟩⟩
                    · rw [HFS2.out, List.length_append, HLQ.out]; rfl
                    · rw [HFS2.out]; exact HS6.out
              · have hpm : p = m := by omega
                subst hpm
                obtain ⟨_, hlq, hs3⟩ := HJ.out
                rw [List.take_of_length_le (by rw [HLM.out]; exact Nat.le_refl _)] at hlq hs3
                have HFIN : Hid (∃ L' : List Int, L'.length = q ∧ ∃ Z u, u ≤ 301 ∧ Bs w wr w.heap.size w.heap.size u (.slice a12 q c12) L' Z) := ⟨_, hlq, Z5, u, hu, hs3.nt, hs3.r12, hs3.f12, hs3.low, two⟩
                clear hlq hs3 HJ
                have di : ¬ (p : Int) < (p : Int) := by omega
                go_wp2_with fail
                go_roundg (300 - (j + 1))
                case measure => have := HK0.out; omega
                case rel => exact ⟨j + 1, q, a12, c12, rfl, by go_num, by omega, by omega, by omega, ⟨rfl, HFIN.out⟩⟩
          · obtain ⟨_, L, hLm, Z, u, hu, hbs⟩ := HI.out
            have HLM : Hid (L.length = m) := hLm
            have HBS : Hid (Bs w wr w.heap.size w.heap.size u (.slice a9 m c9) L Z) := hbs
            clear hbs hLm HI
            by_cases e1 : (j : Int) < (n1 : Int)
            · have e2 : ¬ (j : Int) < 300 := by omega
              go_wp2_with fail
              go_loop [14] (fun t14 => ∃ n : Nat, t14 = .int .i64 (n : Int) ∧ n ≤ m ∧ Hid (∀ p : Nat, p < n → ((p : Int) + 1) ∈ L)) (fun t14 => m + 1 - (intOf t14).toNat)
              case atStart => exact ⟨0, rfl, Nat.zero_le _, fun p hp => by omega⟩
              case round =>
                obtain ⟨n, rfl, hnm, HP⟩ := hrel
                have HIN := in_any w.heap.size (.slice a9 m c9) L ((n : Int) + 1) wr HBS.out.row (by rw [HLM.out]; omega)
                by_cases hin : ((n : Int) + 1) ∈ L
                · rw [decide_eq_true hin] at HIN
                  have HP2 : Hid (∀ p : Nat, p < n + 1 → ((p : Int) + 1) ∈ L) := fun p hp => by
                    by_cases e : p = n
                    · rw [e]; exact hin
                    · exact HP.out p (by omega)
                  have hn1m : n + 1 ≤ m := by rw [← HLM.out]; exact pigeonI (n + 1) L HP2.out
                  go_wp2_with fail
                  refine HIN.mono ?_
                  rintro e w' ⟨rfl, rfl⟩
                  clear HIN
                  go_wp2_with fail
                  go_round
                  case rel => exact ⟨n + 1, by go_num, hn1m, HP2⟩
                  case measure => simp [intOf]; omega
                · rw [decide_eq_false hin] at HIN
                  have HSZ := nt_size HBS.out.nt n HP.out hin (by omega)
                  have HLV := hlives_any wr (by obtain ⟨used, R, x, tb, q1, q2, q3, q4, q5⟩ := HBS.out.nt; exact q2.db)
                  have HLO : Hid (Below w.heap.size w wr) := HBS.out.low
                  clear HBS HP
                  go_wp2_with fail
                  refine HIN.mono ?_
                  rintro e w' ⟨rfl, rfl⟩
                  clear HIN
                  go_wp2_with fail
                  refine HSZ.mono ?_
                  rintro e w' ⟨rfl, rfl⟩
                  clear HSZ
                  go_wp2_with fail
                  refine HLV.mono ?_
                  rintro e w9 ⟨rfl, hb9⟩
                  have HB9 : Hid (Below w.heap.size w w9) := HLO.out.trans (hb9.mono HLO.out.size)
                  clear hb9 HLV
                  go_wp2
                  go_ret
                  exact ⟨rfl, HB9.out⟩
            · go_wp2_with fail
              go_loop [14] (fun t14 => ∃ n : Nat, t14 = .int .i64 (n : Int) ∧ n ≤ m ∧ Hid (∀ p : Nat, p < n → ((p : Int) + 1) ∈ L)) (fun t14 => m + 1 - (intOf t14).toNat)
              case atStart => exact ⟨0, rfl, Nat.zero_le _, fun p hp => by omega⟩
              case round =>
                obtain ⟨n, rfl, hnm, HP⟩ := hrel
                have HIN := in_any w.heap.size (.slice a9 m c9) L ((n : Int) + 1) wr HBS.out.row (by rw [HLM.out]; omega)
                by_cases hin : ((n : Int) + 1) ∈ L
                · rw [decide_eq_true hin] at HIN
                  have HP2 : Hid (∀ p : Nat, p < n + 1 → ((p : Int) + 1) ∈ L) := fun p hp => by
                    by_cases e : p = n
                    · rw [e]; exact hin
                    · exact HP.out p (by omega)
                  have hn1m : n + 1 ≤ m := by rw [← HLM.out]; exact pigeonI (n + 1) L HP2.out
                  go_wp2_with fail
                  refine HIN.mono ?_
                  rintro e w' ⟨rfl, rfl⟩
                  clear HIN
                  go_wp2_with fail
                  go_round
                  case rel => exact ⟨n + 1, by go_num, hn1m, HP2⟩
                  case measure => simp [intOf]; omega
                · rw [decide_eq_false hin] at HIN
                  have HSZ := nt_size HBS.out.nt n HP.out hin (by omega)
                  have HLV := hlives_any wr (by obtain ⟨used, R, x, tb, q1, q2, q3, q4, q5⟩ := HBS.out.nt; exact q2.db)
                  have HLO : Hid (Below w.heap.size w wr) := HBS.out.low
                  clear HBS HP
                  go_wp2_with fail
                  refine HIN.mono ?_
                  rintro e w' ⟨rfl, rfl⟩
                  clear HIN
                  go_wp2_with fail
                  refine HSZ.mono ?_
                  rintro e w' ⟨rfl, rfl⟩
                  clear HSZ
                  go_wp2_with fail
                  refine HLV.mono ?_
                  rintro e w9 ⟨rfl, hb9⟩
                  have HB9 : Hid (Below w.heap.size w w9) := HLO.out.trans (hb9.mono HLO.out.size)
                  clear hb9 HLV
                  go_wp2
                  go_ret
                  exact ⟨rfl, HB9.out⟩
      · clear hcs
        go_wp2_with fail
        go_loopg [9, 11] 300 (fun k t9 t11 wr => ∃ (j m : Nat) (a9 : Option Addr) (c9 : Nat), t9 = .slice a9 m c9 ∧ t11 = .int .i64 (j : Int) ∧ j ≤ n1 ∧ j ≤ 300 ∧ m ≤ 300 ∧ Hid (k = 300 - j ∧ ∃ L : List Int, L.length = m ∧ ∃ Z u, u ≤ 301 ∧ Bs w wr w.heap.size w.heap.size u (.slice a9 m c9) L Z))
        case atStart => exact ⟨0, i, a9, c9, rfl, rfl, Nat.zero_le _, by omega, by omega, ⟨rfl, L, HLL.out, HBS.out⟩⟩
        case round =>
          clear HBS HLL
          obtain ⟨j, m, a9, c9, rfl, rfl, hj, hj3, hm3, HI⟩ := hrel
          by_cases c : j < n1 ∧ j < 300
          · obtain ⟨d1, d2⟩ := c
            have d1i : (j : Int) < (n1 : Int) := by omega
            have d2i : (j : Int) < 300 := by omega
            have hjl : j < gs.length := by rw [← HN1.out]; exact d1
            obtain ⟨xa, rfl, hab, hc⟩ := HF1.out.2 (by omega)
            have hck := hc j hjl
            obtain ⟨kk, hkk⟩ : ∃ kk, kk = gs[j] := ⟨_, rfl⟩
            obtain ⟨k1, k2⟩ := HF1.out.1.fit gs[j] (List.getElem_mem hjl)
            rw [← hkk] at hck k1 k2
            obtain ⟨hk0, L, hLm, Z, u, hu, hbs⟩ := HI.out
            have HLM : Hid (L.length = m) := hLm
            have HBS : Hid (Bs w wr w.heap.size w.heap.size u (.slice a9 m c9) L Z) := hbs
            have HK0 : Hid (gk = 300 - j) := hk0
            have HCK : Hid (w.cell? (xa.add j) = some (.int .i16 kk)) := hck
            have hcr : wr.cell? (xa.add j) = some (.int .i16 kk) := (hbs.low.cell (p := xa.add j) (add_blk xa j hab)).trans hck
            clear hc hkk hk0 hbs HI hck hLm
            go_wp2_with fail
            refine (HNum.out kk _ k1 k2).mono ?_
            rintro e w3 ⟨rfl, hb3⟩
            have HB3 : Hid (Bs w w3 w.heap.size w.heap.size u (.slice a9 m c9) L Z) := HBS.out.below hb3
            have HS := nt_nil HB3.out.nt kk (by omega)
            clear hb3 HBS hcr
            go_wp2_with fail
            refine HS.mono ?_
            rintro e w5 ⟨rfl, Z5, hn5, hx5, hz5⟩
            obtain ⟨hr5, hf5, hl5⟩ := HB3.out.set hx5 hz5
            have hs5 : w.heap.size ≤ w5.heap.size := hl5.size
            have H5 : Hid (NT w5 w.heap.size w.heap.size u (L.filter fun z => decide (z ≠ kk)) Z5 ∧ HR w5 w.heap.size (.slice a9 m c9) L ∧ (∀ g, (Value.slice a9 m c9).ownBlock = some g → ¬ Z5 g) ∧ Below w.heap.size w w5) := ⟨hn5, hr5, hf5, hl5⟩
            clear HS HB3 hn5 hx5 hz5 hr5 hf5 hl5
            go_wp2_with fail
            go_loopg [12, 13] m (fun k t12 t13 wr => ∃ (p q : Nat) (a12 : Option Addr) (c12 : Nat), t12 = .slice a12 q c12 ∧ t13 = .int .i64 (p : Int) ∧ p ≤ m ∧ q ≤ p ∧ Hid (k = m - p ∧ ((L.take p).filter fun z => decide (z ≠ kk)).length = q ∧ S3 w wr u (.slice a9 m c9) (.slice a12 q c12) L (L.filter fun z => decide (z ≠ kk)) ((L.take p).filter fun z => decide (z ≠ kk)) Z5))
            case atStart =>
              obtain ⟨m1, m2, m3, m4⟩ := H5.out
              have hba : Below w5.heap.size w5 (w5.alloc (.cells #[] 3)) := (Below.refl _ _).alloc (Nat.le_refl _) _
              refine ⟨0, 0, _, _, rfl, rfl, Nat.zero_le _, Nat.le_refl _, ⟨by omega, rfl, m1.below hba, m2.below hba, ?_, m3, fun g hg c => ?_, fun g hg c => ?_, m4.trans (hba.mono hs5)⟩⟩
              · exact World.ownsRow_lit (base := w.heap.size) (e := 3) (size := 1) w5 #[] 0 hs5 (by decide) rfl
              · have e : w5.heap.size = g := by simpa [Value.ownBlock] using hg
                obtain ⟨used, R, x, tb, q1, q2, q3, q4, q5⟩ := m1
                have := q2.lt g c
                omega
              · have e : w5.heap.size = g := by simpa [Value.ownBlock] using c
                have := (World.ownsRow.lt m2 g hg).2
                omega
            case round =>
              clear H5
              obtain ⟨p, q, a12, c12, rfl, rfl, hp, hq, HJ⟩ := hrel
              by_cases d : p < m
              · have di : (p : Int) < (m : Int) := by omega
                obtain ⟨hk3, hlq, hs3⟩ := HJ.out
                have hpl : p < L.length := by rw [HLM.out]; exact d
                obtain ⟨a9', c9', he9, hf9⟩ := hs3.r9.form
                rw [HLM.out] at he9
                injection he9 with he9 _ hc99
                subst he9
                subst hc99
                obtain ⟨g9, rfl, hg9, hc9⟩ := hf9 (by omega)
                have hcp := hc9 p hpl
                have hcg : wr.cell? (xa.add j) = some (.int .i16 kk) := (hs3.low.cell (p := xa.add j) (add_blk xa j hab)).trans HCK.out
                obtain ⟨z, hz⟩ : ∃ z, z = L[p] := ⟨_, rfl⟩
                rw [← hz] at hcp
                have HFS : Hid ((L.take (p + 1)).filter (fun z => decide (z ≠ kk)) = (L.take p).filter (fun z => decide (z ≠ kk)) ++ (if decide (z ≠ kk) then [z] else [])) := by rw [hz]; exact filter_snoc L p hpl _
                have HS3 : Hid (S3 w wr u (.slice (some ⟨g9, 0, none⟩) m c9) (.slice a12 q c12) L (L.filter fun z => decide (z ≠ kk)) ((L.take p).filter fun z => decide (z ≠ kk)) Z5) := hs3
                have HK3 : Hid (gk = m - p) := hk3
                have HLQ : Hid (((L.take p).filter fun z => decide (z ≠ kk)).length = q) := hlq
                clear hc9 hz hs3 hk3 hlq HJ hf9
                by_cases ez : z = kk
                · have HFS2 : Hid ((L.take (p + 1)).filter (fun z => decide (z ≠ kk)) = (L.take p).filter (fun z => decide (z ≠ kk))) := by
                    show _ = _
                    rw [HFS.out, if_neg (by simp [ez]), List.append_nil]
                  subst ez
                  go_wp2_with fail
                  go_region
                  go_wp2_with fail
                  go_roundg (m - (p + 1))
                  case measure => have := HK3.out; omega
                  case rel =>
                    refine ⟨p + 1, q, a12, c12, rfl, by go_num, by omega, by omega, ⟨rfl, ?_, ?_⟩⟩
                    · rw [HFS2.out]; exact HLQ.out
                    · rw [HFS2.out]; exact HS3.out.below (Below.refl _ _).drew
                · have HFS2 : Hid ((L.take (p + 1)).filter (fun z => decide (z ≠ kk)) = (L.take p).filter (fun z => decide (z ≠ kk)) ++ [z]) := by
                    show _ = _
                    rw [HFS.out, if_pos (by simp [ez])]
                  go_wp2_with fail
                  go_region
                  obtain ⟨wd, hwd⟩ : ∃ wd, wd = wr.drew := ⟨_, rfl⟩
                  have HSD : Hid (S3 w wd u (.slice (some ⟨g9, 0, none⟩) m c9) (.slice a12 q c12) L (L.filter fun z => decide (z ≠ kk)) ((L.take p).filter fun z => decide (z ≠ kk)) Z5) := by rw [hwd]; exact HS3.out.below (Below.refl _ _).drew
                  have hcd : wd.cell? ⟨g9, p, none⟩ = some (.int .i64 z) := by rw [hwd]; exact hcp
                  rw [← hwd]
                  clear hwd HS3 hcp hcg
                  obtain ⟨G, hG⟩ : ∃ G, G = (L.take p).filter fun z => decide (z ≠ kk) := ⟨_, rfl⟩
                  rw [← hG] at HSD HLQ HFS2
                  clear hG HFS
                  have hown : (wd.alloc (.cells #[.int .i64 z] 3)).ownsRow w.heap.size 3 1 (.slice a12 q c12) q (G.map fun z => .int .i64 z) := by
                    have := World.ownsRow.alloc HSD.out.r12 (.cells #[.int .i64 z] 3)
                    rw [HLQ.out] at this
                    exact this
                  have hsd : w.heap.size ≤ wd.heap.size := HSD.out.low.size
                  go_wp2_with (at_builtin; refine wpList_append_lies _ rfl _ _ 44 rfl w.heap.size 3 i0 _ 1 8 Tryd.underlying44 hi0 hz0 hz1 hz2 rfl (by decide) _ q (G.map fun z => .int .i64 z) rfl hown ⟨wd.heap.size, 0, none⟩ 1 1 [.int .i64 z] rfl rfl (World.news_of_block (w := wd.alloc (.cells #[.int .i64 z] 3)) (B := wd.heap.size) (cs := #[.int .i64 z]) (t := 3) (fr := (0, 0)) (heap_alloc_new _ _)) (by intro u hu; simp at hu; rw [hu]; rfl) (by decide) (by unfold maxLen; omega) (by omega) (by simp; omega) _ rfl ?_)
                  intro g2 cap2 w6 q1 q2 q3 q4
                  have HS6 : Hid (S3 w w6 u (.slice (some ⟨g9, 0, none⟩) m c9) (.slice (some ⟨g2, 0, none⟩) (q + 1) cap2) L (L.filter fun z => decide (z ≠ kk)) (G ++ [z]) Z5) := by
                    have hba : Below wd.heap.size wd (wd.alloc (.cells #[.int .i64 z] 3)) := (Below.refl _ _).alloc (Nat.le_refl _) _
                    have := (HSD.out.below hba).append (z := z) two (by rw [HLQ.out]; exact q1) q2 (by rcases q3 with c | c; exact Or.inl c; exact Or.inr (by rw [c]; simp))
                    rw [HLQ.out] at this
                    exact this
                  clear q1 q2 q3 q4 hown HSD hcd
                  go_wp2_with fail
                  go_roundg (m - (p + 1))
                  case measure => have := HK3.out; omega
                  case rel =>
                    refine ⟨p + 1, q + 1, _, _, rfl, by go_num, by omega, by omega, ⟨rfl, ?_, ?_⟩⟩
                    · rw [HFS2.out, List.length_append, HLQ.out]; rfl
                    · rw [HFS2.out]; exact HS6.out
              · have hpm : p = m := by omega
                subst hpm
                obtain ⟨_, hlq, hs3⟩ := HJ.out
                rw [List.take_of_length_le (by rw [HLM.out]; exact Nat.le_refl _)] at hlq hs3
                have HFIN : Hid (∃ L' : List Int, L'.length = q ∧ ∃ Z u, u ≤ 301 ∧ Bs w wr w.heap.size w.heap.size u (.slice a12 q c12) L' Z) := ⟨_, hlq, Z5, u, hu, hs3.nt, hs3.r12, hs3.f12, hs3.low, two⟩
                clear hlq hs3 HJ
                have di : ¬ (p : Int) < (p : Int) := by omega
                go_wp2_with fail
                go_roundg (300 - (j + 1))
                case measure => have := HK0.out; omega
                case rel => exact ⟨j + 1, q, a12, c12, rfl, by go_num, by omega, by omega, by omega, ⟨rfl, HFIN.out⟩⟩
          · obtain ⟨_, L, hLm, Z, u, hu, hbs⟩ := HI.out
            have HLM : Hid (L.length = m) := hLm
            have HBS : Hid (Bs w wr w.heap.size w.heap.size u (.slice a9 m c9) L Z) := hbs
            clear hbs hLm HI
            by_cases e1 : (j : Int) < (n1 : Int)
            · have e2 : ¬ (j : Int) < 300 := by omega
              go_wp2_with fail
              go_loop [14] (fun t14 => ∃ n : Nat, t14 = .int .i64 (n : Int) ∧ n ≤ m ∧ Hid (∀ p : Nat, p < n → ((p : Int) + 1) ∈ L)) (fun t14 => m + 1 - (intOf t14).toNat)
              case atStart => exact ⟨0, rfl, Nat.zero_le _, fun p hp => by omega⟩
              case round =>
                obtain ⟨n, rfl, hnm, HP⟩ := hrel
                have HIN := in_any w.heap.size (.slice a9 m c9) L ((n : Int) + 1) wr HBS.out.row (by rw [HLM.out]; omega)
                by_cases hin : ((n : Int) + 1) ∈ L
                · rw [decide_eq_true hin] at HIN
                  have HP2 : Hid (∀ p : Nat, p < n + 1 → ((p : Int) + 1) ∈ L) := fun p hp => by
                    by_cases e : p = n
                    · rw [e]; exact hin
                    · exact HP.out p (by omega)
                  have hn1m : n + 1 ≤ m := by rw [← HLM.out]; exact pigeonI (n + 1) L HP2.out
                  go_wp2_with fail
                  refine HIN.mono ?_
                  rintro e w' ⟨rfl, rfl⟩
                  clear HIN
                  go_wp2_with fail
                  go_round
                  case rel => exact ⟨n + 1, by go_num, hn1m, HP2⟩
                  case measure => simp [intOf]; omega
                · rw [decide_eq_false hin] at HIN
                  have HSZ := nt_size HBS.out.nt n HP.out hin (by omega)
                  have HLV := hlives_any wr (by obtain ⟨used, R, x, tb, q1, q2, q3, q4, q5⟩ := HBS.out.nt; exact q2.db)
                  have HLO : Hid (Below w.heap.size w wr) := HBS.out.low
                  clear HBS HP
                  go_wp2_with fail
                  refine HIN.mono ?_
                  rintro e w' ⟨rfl, rfl⟩
                  clear HIN
                  go_wp2_with fail
                  refine HSZ.mono ?_
                  rintro e w' ⟨rfl, rfl⟩
                  clear HSZ
                  go_wp2_with fail
                  refine HLV.mono ?_
                  rintro e w9 ⟨rfl, hb9⟩
                  have HB9 : Hid (Below w.heap.size w w9) := HLO.out.trans (hb9.mono HLO.out.size)
                  clear hb9 HLV
                  go_wp2
                  go_ret
                  exact ⟨rfl, HB9.out⟩
            · go_wp2_with fail
              go_loop [14] (fun t14 => ∃ n : Nat, t14 = .int .i64 (n : Int) ∧ n ≤ m ∧ Hid (∀ p : Nat, p < n → ((p : Int) + 1) ∈ L)) (fun t14 => m + 1 - (intOf t14).toNat)
              case atStart => exact ⟨0, rfl, Nat.zero_le _, fun p hp => by omega⟩
              case round =>
                obtain ⟨n, rfl, hnm, HP⟩ := hrel
                have HIN := in_any w.heap.size (.slice a9 m c9) L ((n : Int) + 1) wr HBS.out.row (by rw [HLM.out]; omega)
                by_cases hin : ((n : Int) + 1) ∈ L
                · rw [decide_eq_true hin] at HIN
                  have HP2 : Hid (∀ p : Nat, p < n + 1 → ((p : Int) + 1) ∈ L) := fun p hp => by
                    by_cases e : p = n
                    · rw [e]; exact hin
                    · exact HP.out p (by omega)
                  have hn1m : n + 1 ≤ m := by rw [← HLM.out]; exact pigeonI (n + 1) L HP2.out
                  go_wp2_with fail
                  refine HIN.mono ?_
                  rintro e w' ⟨rfl, rfl⟩
                  clear HIN
                  go_wp2_with fail
                  go_round
                  case rel => exact ⟨n + 1, by go_num, hn1m, HP2⟩
                  case measure => simp [intOf]; omega
                · rw [decide_eq_false hin] at HIN
                  have HSZ := nt_size HBS.out.nt n HP.out hin (by omega)
                  have HLV := hlives_any wr (by obtain ⟨used, R, x, tb, q1, q2, q3, q4, q5⟩ := HBS.out.nt; exact q2.db)
                  have HLO : Hid (Below w.heap.size w wr) := HBS.out.low
                  clear HBS HP
                  go_wp2_with fail
                  refine HIN.mono ?_
                  rintro e w' ⟨rfl, rfl⟩
                  clear HIN
                  go_wp2_with fail
                  refine HSZ.mono ?_
                  rintro e w' ⟨rfl, rfl⟩
                  clear HSZ
                  go_wp2_with fail
                  refine HLV.mono ?_
                  rintro e w9 ⟨rfl, hb9⟩
                  have HB9 : Hid (Below w.heap.size w w9) := HLO.out.trans (hb9.mono HLO.out.size)
                  clear hb9 HLV
                  go_wp2
                  go_ret
                  exact ⟨rfl, HB9.out⟩

end Go.Proofs.YtjkedocppbcncaaDoor
