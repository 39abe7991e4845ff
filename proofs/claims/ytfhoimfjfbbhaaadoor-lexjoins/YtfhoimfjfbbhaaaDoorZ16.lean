/-
  LxText
-/
import Derived.Test.YtfhoimfjfbbhaaaDoorZ15

/-
  Layer 10: the landed reader's text, walked.
-/
namespace Go.Proofs.YtfhoimfjfbbhaaaDoor
set_option maxRecDepth 100000
open Go.RowKit Txt Lx

/-- Where the first escape stands that is none, as the landed variable has it. -/
def oV (a : Nat) : Option Nat → Int
  | none => -1
  | some q => ((a + q : Nat) : Int)

/-- What a text with an end comes to. -/
def endT (p : Nat) (o : Option Nat) (a : List UInt8) : (Nat × Nat) ⊕ Wd :=
  match o with
  | some q => .inl (q, 4)
  | none => if 16384 < a.length then .inl (0, 2) else .inr ⟨3, p, a, 0⟩
theorem textW_some {l : List UInt8} {p : Nat} {o : Option Nat} {a : List UInt8} (h : txt (l.drop 1) 1 none [] = some (p, o, a)) : textW l = endT p o a := by unfold textW; rw [h]; rfl
theorem textW_none {l : List UInt8} (h : txt (l.drop 1) 1 none [] = none) : textW l = .inl (0, 4) := by unfold textW; rw [h]
theorem cell_newb (w : World) (u : Value) (t : TypeId) : ∀ j y, [u][j]? = some y → (w.alloc (.cells #[u] t)).cell? (Addr.add ⟨w.heap.size, 0, none⟩ j) = some y := by
  intro j y hy
  match j, hy with
  | 0, hy =>
    rw [Addr.add_mid, World.cell?_alloc_at _ _ _ _ rfl]
    simpa using hy
theorem OB.laid {w w2 : World} {B g cap : Nat} {v : Value} {acc : List UInt8} {c : UInt8} (h : OB w B v acc) (o : Obj) (hB : B ≤ w.heap.size)
    (hown : w2.ownsRow B 5 1 (.slice (some ⟨g, 0, none⟩) (acc.length + 1) cap) (acc.length + 1) (b8 acc ++ [.int .u8 (c.toNat : Int)])) (hgrow : (w.alloc o).grownBy w2 v.ownBlock) :
    OB w2 B (.slice (some ⟨g, 0, none⟩) (acc.length + 1) cap) (acc ++ [c]) ∧ Below B w w2 := by
  refine ⟨?_, ((Below.refl B w).alloc hB o).grown hgrow (by simp; omega) (fun k hk => (World.ownsRow.lt h k hk).1)⟩
  unfold OB
  rw [b8_snoc, List.length_append]
  exact hown
/-- The reader goes on, its text's bytes stay. -/
theorem text_step {b i : Nat} {l acc : List UInt8} {v : Value} {w0 wr w2 : World} (hlt : b < w0.heap.size) (hkb : Kb b w0 wr) (hrd : Rd wr b l i) (hb2 : Below w0.heap.size wr w2) (hob : OB w2 w0.heap.size v acc) (j : Nat) :
    Kb b w0 (w2.setCell ⟨b, 1, none⟩ (.int .i64 (j : Int))) ∧ Rd (w2.setCell ⟨b, 1, none⟩ (.int .i64 (j : Int))) b l j ∧ OB (w2.setCell ⟨b, 1, none⟩ (.int .i64 (j : Int))) w0.heap.size v acc := by
  refine ⟨(hkb.more hb2).trans (Kb.set _ _ _ _), (hrd.kept (hb2.block b hlt)).set _, hob.keep (fun k hk _ => heap_setCell_other _ _ _ _ ?_)⟩
  show k ≠ b
  omega

set_option maxHeartbeats 2000000 in
theorem text_any (b a : Nat) (l : List UInt8) (w : World) (h : Rd w b l a) (hl : l.length ≤ 65536) (ha : a < l.length) :
    Calls Tryd.prog 24 #[.pointer (some ⟨b, 0, none⟩)] w (Got b l a (textW (l.drop a)) w) := by
  obtain ⟨i0, hi, hz0, hz1, hz2⟩ := info_parts info8x
  have hsz := bs_size l
  obtain ⟨r, hr⟩ : ∃ r, r = textW (l.drop a) := ⟨_, rfl⟩
  rw [← hr]
  have HRR : Hid (r = textW (l.drop a)) := hr
  clear hr
  obtain ⟨w0, hw0⟩ : ∃ w0, w0 = w.alloc (.cells #[.int .i64 0, .int .i64 0, .string ⟨#[]⟩, .int .u64 0] 31) := ⟨_, rfl⟩
  have hrd0 : Rd w0 b l a := by rw [hw0]; exact h.kept (Below.heap_alloc w _ b h.lt)
  have hlt := h.lt
  have hs0 : w0.heap.size = w.heap.size + 1 := by rw [hw0]; simp
  have hc1 := hrd0.c1
  have hf1 := hrd0.fz 1
  obtain ⟨w00, hw00⟩ : ∃ w00, w00 = w0.setCell ⟨b, 1, none⟩ (.int .i64 ((a + 1 : Nat) : Int)) := ⟨_, rfl⟩
  have HI0 : Hid (Kb b w0 w00 ∧ Rd w00 b l (a + 1)) := by rw [hw00]; exact ⟨Kb.set _ _ _ _, hrd0.set _⟩
  rw [show ((a + 1 : Nat) : Int) = (a : Int) + 1 by omega] at hw00
  have HW0 : Hid (w0 = w.alloc (.cells #[.int .i64 0, .int .i64 0, .string ⟨#[]⟩, .int .u64 0] 31)) := hw0
  have HS0 : Hid (w0.heap.size = w.heap.size + 1) := hs0
  clear h hrd0 hs0
  have ha2 : a < 65536 := by omega
  go_enter Tryd.func24, Tryd.ntmps24
  go_wp2_with fail
  rw [← hw0]
  clear hw0
  have HW00 : Hid (w00 = w0.setCell ⟨b, 1, none⟩ (.int .i64 ((a : Int) + 1))) := hw00
  clear hw00
  go_step3
  go_wp2_with fail
  go_step3
  go_wp2_with fail
  rw [← HW00.out]
  clear hc1 hf1
  go_loopg [4, 5, 6, 7, 8] (l.length - (a + 1)) (fun k t4 t5 _ _ _ wr => ∃ (i : Nat) (o : Option Nat) (acc : List UInt8) (v : Value), t4 = .int .i64 (oV a o) ∧ t5 = v ∧ i ≤ l.length ∧ a < i ∧ acc.length ≤ i ∧ Hid (k = l.length - i ∧ Kb b w0 wr ∧ Rd wr b l i ∧ OB wr w0.heap.size v acc ∧ txt (l.drop i) (i - a) o acc = txt (l.drop (a + 1)) 1 none []))
  case atStart =>
    refine ⟨a + 1, none, [], _, rfl, rfl, by omega, by omega, by simp, ⟨rfl, HI0.out.1, HI0.out.2, ?_, ?_⟩⟩
    · exact World.ownsRow_nil _ _ _ _
    · rw [show a + 1 - a = 1 by omega]
  case round =>
    obtain ⟨i, o, acc, v, rfl, rfl, hil, hai, hac, HI⟩ := hrel
    obtain ⟨hk, hkb, hrd, hob, htx⟩ := HI.out
    obtain ⟨av, cv, rfl⟩ := rowShape hob
    have hlt0 : b < w0.heap.size := by have := HS0.out; omega
    have hc1 := hrd.c1
    have hfz := hrd.fz 1
    have hby := byteAt_any b i i l wr hrd hl (by omega)
    have hkb1 : Kb b w w0 := by rw [HW0.out]; exact Kb.alloc _ _ _
    by_cases c34 : hb (l.drop i) = 34
    · -- the end
      have h34 : ((hb (l.drop i)).toNat : Int) = 34 := by rw [c34]; rfl
      have hpos := hb_pos (m := l.drop i) (by rw [c34]; decide)
      rw [List.length_drop] at hpos
      have hR := txt_quote (m := l.drop i) (by rw [List.length_drop]; omega) c34 (i - a) o acc
      rw [htx] at hR
      have HT : Hid (r = endT (i - a + 1) o acc) := HRR.out.trans (textW_some (by rw [List.drop_drop]; exact hR))
      rw [h34] at hby
      obtain ⟨s1, s2, s3⟩ := text_step hlt0 hkb hrd (Below.refl _ _) hob (i + 1)
      rw [show ((i + 1 : Nat) : Int) = (i : Int) + 1 by omega] at s1 s2 s3
      have HS1 : Hid (Kb b w (wr.setCell ⟨b, 1, none⟩ (.int .i64 ((i : Int) + 1)))) := hkb1.trans s1
      cases o with
      | some q =>
        have HR : Hid (r = .inl (q, 4)) := HT.out
        have hq : (0 : Int) ≤ ((a + q : Nat) : Int) := by omega
        have hov : oV a (some q) = ((a + q : Nat) : Int) := rfl
        rw [hov]
        obtain ⟨aq, haq⟩ : ∃ aq, a + q = aq := ⟨_, rfl⟩
        have HAQ : Hid (a + q = aq) := haq
        rw [haq] at hq ⊢
        clear HI hk hkb hrd hob htx c34 h34 hR HT s1 s2 s3 hov hkb1 haq
        go_wp2_with fail
        refine hby.mono ?_
        rintro e w2 ⟨rfl, rfl⟩
        go_wp2
        refine ⟨rfl, ?_⟩
        rw [HR.out]
        exact ⟨by rw [HAQ.out]; rfl, HS1.out⟩
      | none =>
        have hov : oV a none = -1 := rfl
        rw [hov]
        have hsl : acc.length ≤ 65536 := by omega
        by_cases c16 : 16384 < acc.length
        · have HR : Hid (r = .inl (0, 2)) := by have := HT.out; unfold endT at this; rw [if_pos c16] at this; exact this
          have c16i : (16384 : Int) < (acc.length : Int) := by omega
          clear HI hk hkb hrd hob htx c34 h34 hR HT s1 s2 s3 hov hkb1
          go_wp2_with fail
          refine hby.mono ?_
          rintro e w2 ⟨rfl, rfl⟩
          go_wp2
          refine ⟨rfl, ?_⟩
          rw [HR.out]
          exact ⟨rfl, HS1.out⟩
        · have HR : Hid (r = .inr ⟨3, i - a + 1, acc, 0⟩) := by have := HT.out; unfold endT at this; rw [if_neg c16] at this; exact this
          have c16i : ¬ (16384 : Int) < (acc.length : Int) := by omega
          have hcv := s3.conv
          have hks : Kb b (w.alloc (.cells #[.int .i64 0, .int .i64 0, .string ⟨#[]⟩, .int .u64 0] 31)) (wr.setCell ⟨b, 1, none⟩ (.int .i64 ((i : Int) + 1))) := by rw [← HW0.out]; exact s1
          obtain ⟨q0, q1, q2, q3, qz⟩ := made hlt hks
          have qz0 := qz 0
          have qz1 := qz 1
          have qz2 := qz 2
          have qz3 := qz 3
          have HQ : Hid (∀ w', Below w.heap.size (wr.setCell ⟨b, 1, none⟩ (.int .i64 ((i : Int) + 1))) w' → Went b l (i + 1) w w') := fun w' hb' => ⟨HS1.out.more hb', s2.kept (hb'.block b hlt)⟩
          have HA : Hid (a < i) := hai
          clear HI hk hkb hrd hob htx c34 h34 hR HT s1 s2 s3 hov hkb1 hks qz c16
          go_wp2_with fail
          refine hby.mono ?_
          rintro e w2 ⟨rfl, rfl⟩
          generalize hg0 : w.heap.size = g0 at *
          go_wp2
          rw [Exit.noGoto_ret]
          refine bodyPost_ret (v := .agg #[.int .i64 3, .int .i64 a, .string (bs acc), .int .u64 0]) (by simp [results, Tryd.results24, go_sem, q0, q1, q2, q3]) rfl ?_
          rw [HR.out]
          refine ⟨rfl, ?_⟩
          show Went b l (a + (i - a + 1)) w _
          rw [show a + (i - a + 1) = i + 1 by have := HA.out; omega]
          exact HQ.out _ (set4 (Below.refl _ _) (Nat.le_refl _) _ _ _ _)
    · by_cases c10 : hb (l.drop i) = 10
      · -- no end
        have h10 : ((hb (l.drop i)).toNat : Int) = 10 := by rw [c10]; rfl
        have hR := txt_lf (m := l.drop i) c10 (i - a) o acc
        rw [htx] at hR
        have HR : Hid (r = .inl (0, 4)) := HRR.out.trans (textW_none (by rw [List.drop_drop]; exact hR))
        have HK : Hid (Kb b w wr) := hkb1.trans hkb
        rw [h10] at hby
        clear HI hk hkb hrd hob htx c34 c10 h10 hR hkb1
        generalize oV a o = ov at *
        go_wp2_with fail
        refine hby.mono ?_
        rintro e w2 ⟨rfl, rfl⟩
        go_wp2
        refine ⟨rfl, ?_⟩
        rw [HR.out]
        exact ⟨rfl, HK.out⟩
      · have hpos := hb_pos (m := l.drop i) c10
        rw [List.length_drop] at hpos
        have HB0 : Hid (w0.heap.size ≤ wr.heap.size) := hkb.size
        have hB0 : w0.heap.size ≤ wr.heap.size := hkb.size
        have hacl : acc.length ≤ 65536 := by omega
        by_cases c92 : hb (l.drop i) = 92
        · have h92 : ((hb (l.drop i)).toNat : Int) = 92 := by rw [c92]; rfl
          have hby2 := byteAt_any b i (i + 1) l wr hrd hl (by omega)
          have hesc := escaped_any (hb (l.drop (i + 1))) wr
          rw [show ((i + 1 : Nat) : Int) = (i : Int) + 1 by omega] at hby2
          rw [h92] at hby
          have hdd : hb ((l.drop i).drop 1) = hb (l.drop (i + 1)) := by rw [List.drop_drop]
          cases ce : esc (hb (l.drop (i + 1))) with
          | some ec =>
            rw [ce] at hesc
            obtain ⟨hT, h2⟩ := txt_esc (m := l.drop i) c92 (by rw [hdd]; exact ce) (i - a) o acc
            rw [List.length_drop] at h2
            rw [htx, List.drop_drop] at hT
            have hesc' : Calls Tryd.prog 31 #[.int .u8 (hb (l.drop (i + 1))).toNat] wr fun e w' => e = .returned (.tuple #[.int .u8 (ec.toNat : Int), .bool true]) ∧ w' = wr := hesc
            have hown : (wr.alloc (.cells #[.int .u8 (ec.toNat : Int)] 5)).ownsRow w0.heap.size 5 1 (.slice av acc.length cv) acc.length (b8 acc) := World.ownsRow.alloc hob _
            have HN : Hid (∀ (w2 : World) (g cap : Nat), w2.ownsRow w0.heap.size 5 1 (.slice (some ⟨g, 0, none⟩) (acc.length + 1) cap) (acc.length + 1) (b8 acc ++ [.int .u8 (ec.toNat : Int)]) → (wr.alloc (.cells #[.int .u8 (ec.toNat : Int)] 5)).grownBy w2 (Value.ownBlock (.slice av acc.length cv)) →
                w2.cell? ⟨b, 1, none⟩ = some (.int .i64 i) ∧ w2.frozen? ⟨b, 1, none⟩ = false ∧
                (l.length - (i + 2) < gk ∧ Kb b w0 ((w2.setCell ⟨b, 1, none⟩ (.int .i64 ((i : Int) + 1))).setCell ⟨b, 1, none⟩ (.int .i64 ((i : Int) + 1 + 1))) ∧ Rd ((w2.setCell ⟨b, 1, none⟩ (.int .i64 ((i : Int) + 1))).setCell ⟨b, 1, none⟩ (.int .i64 ((i : Int) + 1 + 1))) b l (i + 2) ∧
                  OB ((w2.setCell ⟨b, 1, none⟩ (.int .i64 ((i : Int) + 1))).setCell ⟨b, 1, none⟩ (.int .i64 ((i : Int) + 1 + 1))) w0.heap.size (.slice (some ⟨g, 0, none⟩) (acc.length + 1) cap) (acc ++ [ec]) ∧ txt (l.drop (i + 2)) (i + 2 - a) o (acc ++ [ec]) = txt (l.drop (a + 1)) 1 none [])) := by
              intro w2 g cap h1 h2
              obtain ⟨k1, k2⟩ := OB.laid hob _ hB0 h1 h2
              have hr2 : Rd w2 b l i := hrd.kept (k2.block b hlt0)
              obtain ⟨s1, s2, s3⟩ := text_step hlt0 hkb hrd k2 k1 (i + 1)
              obtain ⟨t1, t2, t3⟩ := text_step hlt0 s1 s2 (Below.refl _ _) s3 (i + 2)
              rw [show ((i + 1 : Nat) : Int) = (i : Int) + 1 by omega, show ((i + 2 : Nat) : Int) = (i : Int) + 1 + 1 by omega] at t1 t2 t3
              exact ⟨hr2.c1, hr2.fz 1, by omega, t1, t2, t3, by rw [show i + 2 - a = i - a + 2 by omega, ← hT]⟩
            generalize (hb (l.drop (i + 1))).toNat = m1 at *
            generalize (ec.toNat : Int) = en at *
            obtain ⟨ov, hov⟩ : ∃ ov, oV a o = ov := ⟨_, rfl⟩
            have HOV : Hid (oV a o = ov) := hov
            rw [hov]
            clear hov
            clear HI hk hkb hrd hob htx c34 c10 c92 h92 hT hkb1 hesc ce hdd hlt
            go_wp2_with fail
            refine hby.mono ?_
            rintro e w2 ⟨rfl, rfl⟩
            go_wp2_with fail
            refine hby2.mono ?_
            rintro e w3 ⟨rfl, rfl⟩
            go_wp2_with fail
            refine hesc'.mono ?_
            rintro e w3 ⟨rfl, rfl⟩
            go_wp2_with (at_builtin; refine wpList_append_lies _ rfl _ _ 47 rfl w0.heap.size 5 i0 (.int .u8 0) 1 1 Tryd.underlying47 hi hz0 hz1 hz2 rfl (by decide) _ acc.length (b8 acc) rfl hown ⟨w3.heap.size, 0, none⟩ 1 1 [.int .u8 (en : Int)] rfl rfl (cell_newb _ _ _) (by intro u hu; simp at hu; subst hu; rfl) (by decide) (by unfold maxLen; omega) (by omega) (by simp; omega) _ rfl ?_)
            intro g cap w4 hown' hgrow hat _
            obtain ⟨n1, n2, n3⟩ := HN.out w4 g cap hown' hgrow
            have HN3 : Hid _ := n3
            clear n3 hown' hgrow hat hown HN
            go_wp2_with fail
            go_roundg (l.length - (i + 2))
            case measure => exact HN3.out.1
            case rel => exact ⟨i + 2, o, acc ++ [ec], _, by rw [HOV.out], rfl, by omega, by omega, by rw [List.length_append, List.length_singleton]; omega, ⟨rfl, HN3.out.2⟩⟩
          | none =>
            rw [ce] at hesc
            have hT := txt_bad (m := l.drop i) c92 (by rw [hdd]; exact ce) (i - a) o acc
            rw [htx, List.drop_drop] at hT
            have hesc' : Calls Tryd.prog 31 #[.int .u8 (hb (l.drop (i + 1))).toNat] wr fun e w' => e = .returned (.tuple #[.int .u8 0, .bool false]) ∧ w' = wr := hesc
            have hown : (wr.alloc (.cells #[.int .u8 92] 5)).ownsRow w0.heap.size 5 1 (.slice av acc.length cv) acc.length (b8 acc) := World.ownsRow.alloc hob _
            have HN : Hid (∀ (w2 : World) (g cap : Nat), w2.ownsRow w0.heap.size 5 1 (.slice (some ⟨g, 0, none⟩) (acc.length + 1) cap) (acc.length + 1) (b8 acc ++ [.int .u8 92]) → (wr.alloc (.cells #[.int .u8 92] 5)).grownBy w2 (Value.ownBlock (.slice av acc.length cv)) →
                w2.cell? ⟨b, 1, none⟩ = some (.int .i64 i) ∧ w2.frozen? ⟨b, 1, none⟩ = false ∧
                (l.length - (i + 1) < gk ∧ Kb b w0 (w2.setCell ⟨b, 1, none⟩ (.int .i64 ((i : Int) + 1))) ∧ Rd (w2.setCell ⟨b, 1, none⟩ (.int .i64 ((i : Int) + 1))) b l (i + 1) ∧
                  OB (w2.setCell ⟨b, 1, none⟩ (.int .i64 ((i : Int) + 1))) w0.heap.size (.slice (some ⟨g, 0, none⟩) (acc.length + 1) cap) (acc ++ [92]) ∧ txt (l.drop (i + 1)) (i + 1 - a) (o.or (some (i - a))) (acc ++ [92]) = txt (l.drop (a + 1)) 1 none [])) := by
              intro w2 g cap h1 h2
              obtain ⟨k1, k2⟩ := OB.laid (c := 92) hob _ hB0 h1 h2
              have hr2 : Rd w2 b l i := hrd.kept (k2.block b hlt0)
              obtain ⟨s1, s2, s3⟩ := text_step hlt0 hkb hrd k2 k1 (i + 1)
              rw [show ((i + 1 : Nat) : Int) = (i : Int) + 1 by omega] at s1 s2 s3
              exact ⟨hr2.c1, hr2.fz 1, by omega, s1, s2, s3, by rw [show i + 1 - a = i - a + 1 by omega, ← hT]⟩
            generalize (hb (l.drop (i + 1))).toNat = m1 at *
            clear HI hk hkb hrd hob htx c34 c10 c92 h92 hT hkb1 hesc ce hdd hlt
            cases o with
            | none =>
              have hov : oV a none = -1 := rfl
              rw [hov]
              have HOV : Hid (oV a (some (i - a)) = (i : Int)) := by
                show ((a + (i - a) : Nat) : Int) = _
                omega
              clear hov
              go_wp2_with fail
              refine hby.mono ?_
              rintro e w2 ⟨rfl, rfl⟩
              go_wp2_with fail
              refine hby2.mono ?_
              rintro e w3 ⟨rfl, rfl⟩
              go_wp2_with fail
              refine hesc'.mono ?_
              rintro e w3 ⟨rfl, rfl⟩
              go_wp2_with (at_builtin; refine wpList_append_lies _ rfl _ _ 47 rfl w0.heap.size 5 i0 (.int .u8 0) 1 1 Tryd.underlying47 hi hz0 hz1 hz2 rfl (by decide) _ acc.length (b8 acc) rfl hown ⟨w3.heap.size, 0, none⟩ 1 1 [.int .u8 (92 : Int)] rfl rfl (cell_newb _ _ _) (by intro u hu; simp at hu; subst hu; rfl) (by decide) (by unfold maxLen; omega) (by omega) (by simp; omega) _ rfl ?_)
              intro g cap w4 hown' hgrow hat _
              obtain ⟨n1, n2, n3⟩ := HN.out w4 g cap hown' hgrow
              have HN3 : Hid _ := n3
              clear n3 hown' hgrow hat hown HN
              go_wp2_with fail
              go_roundg (l.length - (i + 1))
              case measure => exact HN3.out.1
              case rel => exact ⟨i + 1, some (i - a), acc ++ [92], _, by rw [HOV.out], rfl, by omega, by omega, by rw [List.length_append, List.length_singleton]; omega, ⟨rfl, HN3.out.2⟩⟩
            | some q =>
              have hov : oV a (some q) = ((a + q : Nat) : Int) := rfl
              rw [hov]
              obtain ⟨aq, haq⟩ : ∃ aq, a + q = aq := ⟨_, rfl⟩
              have HOV : Hid (oV a (some q) = (aq : Int)) := by rw [← haq]; exact hov
              rw [haq]
              have hq0 : ¬ (aq : Int) < 0 := by omega
              clear hov haq
              go_wp2_with fail
              refine hby.mono ?_
              rintro e w2 ⟨rfl, rfl⟩
              go_wp2_with fail
              refine hby2.mono ?_
              rintro e w3 ⟨rfl, rfl⟩
              go_wp2_with fail
              refine hesc'.mono ?_
              rintro e w3 ⟨rfl, rfl⟩
              go_wp2_with (at_builtin; refine wpList_append_lies _ rfl _ _ 47 rfl w0.heap.size 5 i0 (.int .u8 0) 1 1 Tryd.underlying47 hi hz0 hz1 hz2 rfl (by decide) _ acc.length (b8 acc) rfl hown ⟨w3.heap.size, 0, none⟩ 1 1 [.int .u8 (92 : Int)] rfl rfl (cell_newb _ _ _) (by intro u hu; simp at hu; subst hu; rfl) (by decide) (by unfold maxLen; omega) (by omega) (by simp; omega) _ rfl ?_)
              intro g cap w4 hown' hgrow hat _
              obtain ⟨n1, n2, n3⟩ := HN.out w4 g cap hown' hgrow
              have HN3 : Hid _ := n3
              clear n3 hown' hgrow hat hown HN
              go_wp2_with fail
              go_roundg (l.length - (i + 1))
              case measure => exact HN3.out.1
              case rel => exact ⟨i + 1, some q, acc ++ [92], _, by rw [HOV.out], rfl, by omega, by omega, by rw [List.length_append, List.length_singleton]; omega, ⟨rfl, HN3.out.2⟩⟩
        · have hT := txt_other (m := l.drop i) c34 c10 c92 (i - a) o acc
          rw [htx, List.drop_drop] at hT
          have n34 : (((hb (l.drop i)).toNat : Int) == 34) = false := by rw [beq_eq_false_iff_ne]; intro e; exact c34 (u8_int.2 e)
          have n10 : (((hb (l.drop i)).toNat : Int) == 10) = false := by rw [beq_eq_false_iff_ne]; intro e; exact c10 (u8_int.2 e)
          have n92 : (((hb (l.drop i)).toNat : Int) == 92) = false := by rw [beq_eq_false_iff_ne]; intro e; exact c92 (u8_int.2 e)
          obtain ⟨cc, hcc⟩ : ∃ cc, cc = hb (l.drop i) := ⟨_, rfl⟩
          rw [← hcc] at hby hT n34 n10 n92
          have hown : (wr.alloc (.cells #[.int .u8 (cc.toNat : Int)] 5)).ownsRow w0.heap.size 5 1 (.slice av acc.length cv) acc.length (b8 acc) := World.ownsRow.alloc hob _
          have HN : Hid (∀ (w2 : World) (g cap : Nat), w2.ownsRow w0.heap.size 5 1 (.slice (some ⟨g, 0, none⟩) (acc.length + 1) cap) (acc.length + 1) (b8 acc ++ [.int .u8 (cc.toNat : Int)]) → (wr.alloc (.cells #[.int .u8 (cc.toNat : Int)] 5)).grownBy w2 (Value.ownBlock (.slice av acc.length cv)) →
              w2.cell? ⟨b, 1, none⟩ = some (.int .i64 i) ∧ w2.frozen? ⟨b, 1, none⟩ = false ∧
              (l.length - (i + 1) < gk ∧ Kb b w0 (w2.setCell ⟨b, 1, none⟩ (.int .i64 ((i : Int) + 1))) ∧ Rd (w2.setCell ⟨b, 1, none⟩ (.int .i64 ((i : Int) + 1))) b l (i + 1) ∧
                OB (w2.setCell ⟨b, 1, none⟩ (.int .i64 ((i : Int) + 1))) w0.heap.size (.slice (some ⟨g, 0, none⟩) (acc.length + 1) cap) (acc ++ [cc]) ∧ txt (l.drop (i + 1)) (i + 1 - a) o (acc ++ [cc]) = txt (l.drop (a + 1)) 1 none [])) := by
            intro w2 g cap h1 h2
            obtain ⟨k1, k2⟩ := OB.laid hob _ hB0 h1 h2
            have hr2 : Rd w2 b l i := hrd.kept (k2.block b hlt0)
            obtain ⟨s1, s2, s3⟩ := text_step hlt0 hkb hrd k2 k1 (i + 1)
            rw [show ((i + 1 : Nat) : Int) = (i : Int) + 1 by omega] at s1 s2 s3
            exact ⟨hr2.c1, hr2.fz 1, by omega, s1, s2, s3, by rw [show i + 1 - a = i - a + 1 by omega, ← hT]⟩
          obtain ⟨ov, hov⟩ : ∃ ov, oV a o = ov := ⟨_, rfl⟩
          have HOV : Hid (oV a o = ov) := hov
          rw [hov]
          clear hov
          generalize (cc.toNat : Int) = en at *
          clear HI hk hkb hrd hob htx c34 c10 c92 hT hkb1 hcc hlt
          go_wp2_with fail
          refine hby.mono ?_
          rintro e w3 ⟨rfl, rfl⟩
          go_wp2_with (at_builtin; refine wpList_append_lies _ rfl _ _ 47 rfl w0.heap.size 5 i0 (.int .u8 0) 1 1 Tryd.underlying47 hi hz0 hz1 hz2 rfl (by decide) _ acc.length (b8 acc) rfl hown ⟨w3.heap.size, 0, none⟩ 1 1 [.int .u8 (en : Int)] rfl rfl (cell_newb _ _ _) (by intro u hu; simp at hu; subst hu; rfl) (by decide) (by unfold maxLen; omega) (by omega) (by simp; omega) _ rfl ?_)
          intro g cap w4 hown' hgrow hat _
          obtain ⟨n1, n2, n3⟩ := HN.out w4 g cap hown' hgrow
          have HN3 : Hid _ := n3
          clear n3 hown' hgrow hat hown HN
          go_wp2_with fail
          go_roundg (l.length - (i + 1))
          case measure => exact HN3.out.1
          case rel => exact ⟨i + 1, o, acc ++ [cc], _, by rw [HOV.out], rfl, by omega, by omega, by rw [List.length_append, List.length_singleton]; omega, ⟨rfl, HN3.out.2⟩⟩

end Go.Proofs.YtfhoimfjfbbhaaaDoor
