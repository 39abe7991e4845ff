/-
  Prt3
-/
import Derived.Test.YtgbajhenmamjjaaGreatDoorZ14

/-
  The landed digits, walked.
-/
namespace Go.Proofs.YtgbajhenmamjjaaGreatDoor
set_option maxRecDepth 100000
open Go.RowKit Pt

def c8 (ds : List Nat) : List Value := ds.map fun (d : Nat) => Value.int .u8 (d : Int)
/-- The digits, told one by one. -/
def digF (U : Nat) (ed : Bool) : Nat → Nat → Nat → Nat → Option (List Nat)
  | 0, _, _, _ => none
  | f + 1, T, L, A =>
    if moreB ed (wit ed (T % U) L) (U - T % U) (T % U) A (T / U) then some [T / U + 1]
    else if wit ed (T % U) L then some [T / U]
    else (digF U ed f (T % U * 10) (L * 10) (A * 10)).map (T / U :: ·)
theorem info8 : (Tryz.prog.info? 5).map (fun i => (i.zero, i.size, i.bytes)) = some (some (.int .u8 0), 1, 1) := by kernel_rfl
/-- The digit in its box. -/
def dOf (w : World) (b : Nat) : Nat := match w.cell? ⟨b, 0, none⟩ with | some (.int _ n) => n.toNat | _ => 0
def lenOf : Value → Nat
  | .slice _ n _ => n
  | _ => 0

theorem row_other {w w' : World} {B e s n g : Nat} {v : Value} {xs : List Value} (h : w.ownsRow B e s v n xs) (m : w.grownBy w' (some g)) (hv : ∀ k, v.ownBlock = some k → k ≠ g) : w'.ownsRow B e s v n xs := by
  refine ⟨h.1, ?_⟩
  rcases h.2 with hn | ⟨g', cap, cur, rfl, h0, hg', rest⟩
  · exact .inl hn
  · refine .inr ⟨g', cap, cur, rfl, h0, ?_, rest⟩
    rw [m.block g' (Array.getElem?_eq_some_iff.1 hg').1 (by simpa using hv g' rfl)]
    exact hg'
theorem row_below {w w' : World} {B e s n : Nat} {v : Value} {xs : List Value} (h : w.ownsRow B e s v n xs) (m : Below w.heap.size w w') : w'.ownsRow B e s v n xs := by
  refine ⟨h.1, ?_⟩
  rcases h.2 with hn | ⟨g', cap, cur, rfl, h0, hg', rest⟩
  · exact .inl hn
  · refine .inr ⟨g', cap, cur, rfl, h0, ?_, rest⟩
    rw [m.block g' (Array.getElem?_eq_some_iff.1 hg').1]
    exact hg'
theorem Sep.new {w w' : World} {p r : List Nat} (h : Sep w (p ++ r)) (hs : w.heap.size < w'.heap.size) : Sep w' (p ++ w.heap.size :: r) := by
  obtain ⟨h1, h2⟩ := h
  refine ⟨(List.perm_middle (a := w.heap.size) (l₁ := p) (l₂ := r)).nodup_iff.2 ?_, ?_⟩
  · rw [List.nodup_cons]
    exact ⟨fun hm => Nat.lt_irrefl _ (h2 _ hm), h1⟩
  · intro x hx
    rcases List.mem_append.1 hx with q | q
    · have := h2 x (by simp [q]); omega
    · rcases List.mem_cons.1 q with q | q
      · omega
      · have := h2 x (by simp [q]); omega
theorem Sep.sub {w : World} {p r : List Nat} {g : Nat} (h : Sep w (p ++ g :: r)) : Sep w (p ++ r) := by
  refine ⟨?_, fun x hx => h.2 x ?_⟩
  · have := (List.perm_middle (a := g) (l₁ := p) (l₂ := r)).nodup_iff.1 h.1
    rw [List.nodup_cons] at this
    exact this.2
  · rcases List.mem_append.1 hx with q | q <;> simp [q]
theorem Sep.ne {w : World} {p r : List Nat} {g x : Nat} (h : Sep w (p ++ g :: r)) (hx : x ∈ p ++ r) : x ≠ g := by
  have := (List.perm_middle (a := g) (l₁ := p) (l₂ := r)).nodup_iff.1 h.1
  rw [List.nodup_cons] at this
  intro e
  exact this.1 (e ▸ hx)

theorem PR.heap {w w' : World} {g n : Nat} {v : Value} (h : PR w g v n) (e : w'.heap = w.heap) : PR w' g v n := by
  obtain ⟨ds, ⟨cap, h1, h2, h3⟩, h4⟩ := h
  refine ⟨ds, ⟨cap, h1, h2, ?_⟩, h4⟩
  unfold World.ownsRow at *
  rw [e]; exact h3
theorem gb_heap {u w w' : World} {r : Option Nat} (h : u.grownBy w' r) (e : u.heap = w.heap) (e1 : u.os = w.os) (e2 : u.tape = w.tape) (e3 : u.output = w.output) : w.grownBy w' r :=
  ⟨h.os.trans e1, h.tape.trans e2, h.output.trans e3, by rw [← e]; exact h.size, fun k hk hn => by rw [← e] at hk; rw [h.block k hk hn, e]⟩
theorem dig_lt9 {d U Ti T : Nat} (h : d * U + Ti = T) (hT : T < 10 * U) (hU : U ≤ Ti) : d ≤ 8 := by
  rcases Nat.lt_or_ge d 9 with c | c
  · omega
  · have := Nat.mul_le_mul_right U c
    omega
theorem dig_next {d U Ti T : Nat} (h : d * U + Ti = T) (hU : U ≤ Ti) : (d + 1) * U + (Ti - U) = T := by
  rw [Nat.add_mul]; omega

theorem digF_more {U f T L A d Ti : Nat} {ed : Bool} {rest : List Nat} (h : digF U ed f T L A = some rest) (h1 : T / U = d ∧ T % U = Ti) (h2 : moreB ed (wit ed Ti L) (U - Ti) Ti A d = true) : rest = [d + 1] := by
  cases f with
  | zero => simp [digF] at h
  | succ f =>
    unfold digF at h
    rw [h1.1, h1.2, if_pos h2] at h
    simpa using h.symm
theorem digF_stay {U f T L A d Ti : Nat} {ed : Bool} {rest : List Nat} (h : digF U ed f T L A = some rest) (h1 : T / U = d ∧ T % U = Ti) (h2 : moreB ed (wit ed Ti L) (U - Ti) Ti A d = false) (h3 : wit ed Ti L = true) : rest = [d] := by
  cases f with
  | zero => simp [digF] at h
  | succ f =>
    unfold digF at h
    rw [h1.1, h1.2, if_neg (by rw [h2]; decide), if_pos h3] at h
    simpa using h.symm
theorem digF_next {U f T L A d Ti : Nat} {ed : Bool} {rest : List Nat} (h : digF U ed f T L A = some rest) (h1 : T / U = d ∧ T % U = Ti) (h2 : moreB ed (wit ed Ti L) (U - Ti) Ti A d = false) (h3 : wit ed Ti L = false) :
    ∃ f' r', f = f' + 1 ∧ rest = d :: r' ∧ digF U ed f' (Ti * 10) (L * 10) (A * 10) = some r' := by
  cases f with
  | zero => simp [digF] at h
  | succ f =>
    unfold digF at h
    rw [h1.1, h1.2, if_neg (by rw [h2]; decide), if_neg (by rw [h3]; decide)] at h
    obtain ⟨r', hr, he⟩ := Option.map_eq_some_iff.1 h
    exact ⟨f, r', rfl, he.symm, hr⟩
theorem Sep.keep {w w' : World} {p r : List Nat} {g : Nat} (h : Sep w (p ++ r)) (hs : w.heap.size ≤ w'.heap.size) (hg : g ∉ p) (hl : g < w'.heap.size) : Sep w' (p ++ [g]) := by
  obtain ⟨h1, h2⟩ := h
  refine ⟨?_, ?_⟩
  · rw [List.nodup_append] at h1 ⊢
    refine ⟨h1.1, by simp, ?_⟩
    intro a ha c hc e
    simp at hc
    exact hg (by rw [← hc, ← e]; exact ha)
  · intro y hy
    rcases List.mem_append.1 hy with q | q
    · have := h2 y (by simp [q]); omega
    · simp at q; omega
theorem row_free {w w' : World} {r : Option Nat} {N : Nat} (h : w.grownBy w' r) (_ : N = w.heap.size) : ∃ s, w.grownBy w' (some s) ∧ (r = some s ∨ s = N) := by
  cases r with
  | none => exact ⟨N, ⟨h.os, h.tape, h.output, h.size, fun i hi _ => h.block i hi (by simp)⟩, Or.inr rfl⟩
  | some s => exact ⟨s, h, Or.inl rfl⟩
theorem times16 {L K k : Nat} (h : L < 2 ^ (K + 4 * k)) : L * 10 < 2 ^ (K + 4 * (k + 1)) := by
  rw [show K + 4 * (k + 1) = K + 4 * k + 4 by omega, Nat.pow_add]
  omega
theorem c8_snoc (ds : List Nat) (d : Nat) : c8 ds ++ [.int .u8 (d : Int)] = c8 (ds ++ [d]) := by unfold c8; rw [List.map_append]; rfl
theorem dig_done {d U Ti T : Nat} (h : d * U + Ti = T) (hU : Ti < U) : T / U = d ∧ T % U = Ti := by
  rw [← h, Nat.add_comm, Nat.add_mul_div_right _ _ (by omega), Nat.div_eq_of_lt hU, Nat.add_mul_mod_self_right, Nat.mod_eq_of_lt hU]
  omega
theorem dig_le9 {d U Ti T : Nat} (h : d * U + Ti = T) (hT : T < 10 * U) : d ≤ 9 := by
  rcases Nat.lt_or_ge d 10 with c | c
  · omega
  · have := Nat.mul_le_mul_right U c
    omega

set_option linter.unusedSimpArgs false in
set_option maxHeartbeats 4000000 in
theorem digits_any2 (b g0 g1 g2 g3 T0 U L0 A0 F K B0 : Nat) (v0 v1 v2 v3 : Value) (ed : Bool) (DS : List Nat) (w : World) (hM : RM w b g0 g1 g2 g3 v0 v1 v2 v3 T0 U L0 A0 ed)
    (hD : digF U ed F T0 L0 A0 = some DS) (hT : T0 < 10 * U) (hF : F ≤ 1000) (hK : K ≤ 100000) (hUK : U < 2 ^ K) (hLK : L0 < 2 ^ K) (hAK : A0 < 2 ^ K)
    (hN : [b, g0, g1, g2, g3].Nodup) (hB : B0 ≤ b ∧ B0 ≤ g0 ∧ B0 ≤ g1 ∧ B0 ≤ g2 ∧ B0 ≤ g3) (hbs : b < w.heap.size) :
    Calls Tryz.prog 44 #[.pointer (some ⟨b, 0, none⟩)] w fun e w' => ∃ v', e = .returned v' ∧ w'.ownsRow B0 5 1 v' DS.length (c8 DS) ∧ Below B0 w w' := by
  obtain ⟨bx, hbx⟩ : ∃ bx, bx = w.heap.size := ⟨_, rfl⟩
  obtain ⟨w1, hw1⟩ : ∃ w1, w1 = w.alloc (.cells #[.pointer (some ⟨b, 0, none⟩)] 88) := ⟨_, rfl⟩
  have hU : 0 < U := by
    rcases Nat.eq_zero_or_pos U with c | c
    · subst c; omega
    · exact c
  have hbel1 : Below w.heap.size w w1 := by rw [hw1]; exact (Below.refl _ _).alloc (Nat.le_refl _) _
  have hM1 := hM.below hbel1 hbs
  have hsz1 : w1.heap.size = w.heap.size + 1 := by rw [hw1]; simp
  have hS1 : Sep w1 (b :: bx :: g0 :: g1 :: g2 :: g3 :: []) := by
    have l0 := hM.p0.lt
    have l1 := hM.p1.lt
    have l2 := hM.p2.lt
    have l3 := hM.p3.lt
    simp only [List.nodup_cons, List.mem_cons, not_or, List.not_mem_nil] at hN
    refine ⟨?_, ?_⟩
    · simp only [List.nodup_cons, List.mem_cons, not_or, List.not_mem_nil]
      refine ⟨⟨by omega, hN.1.1, hN.1.2.1, hN.1.2.2.1, hN.1.2.2.2.1, by simp⟩, ⟨by omega, by omega, by omega, by omega, by simp⟩, hN.2.1, hN.2.2⟩
    · intro x hx
      simp only [List.mem_cons, List.not_mem_nil, or_false] at hx
      omega
  have cx1 : w1.cell? ⟨bx, 0, none⟩ = some (.pointer (some ⟨b, 0, none⟩)) := by rw [hw1, hbx]; simp
  have hbB : Below B0 w w1 := hbel1.mono (by omega)
  have HD : Hid (digF U ed F T0 L0 A0 = some DS ∧ L0 < 2 ^ (K + 4 * 0) ∧ A0 < 2 ^ (K + 4 * 0)) := ⟨hD, by simpa using hLK, by simpa using hAK⟩
  obtain ⟨hB1, hB2, hB3, hB4, hB5⟩ := hB
  have hBx : B0 ≤ bx := by omega
  clear hM hbel1 hD hN hLK hAK
  go_enter Tryz.func44, Tryz.ntmps44
  go_wp2_with fail
  rw [← hw1, ← hbx]
  go_loopw [3] (fun t3 wr => ∃ (k f T L A h0 h2 h3 : Nat) (y0 y2 y3 : Value) (ds rest : List Nat) (ss : List Nat), k + f = F ∧ ds.length = k ∧ RM wr b h0 g1 h2 h3 y0 v1 y2 y3 T U L A ed ∧ T < 10 * U ∧
      wr.cell? ⟨bx, 0, none⟩ = some (.pointer (some ⟨b, 0, none⟩)) ∧ wr.ownsRow B0 5 1 t3 k (c8 ds) ∧ Sep wr (b :: bx :: h0 :: g1 :: h2 :: h3 :: ss) ∧ (∀ s, t3.ownBlock = some s → s ∈ ss) ∧
      Hid (digF U ed f T L A = some rest ∧ ds ++ rest = DS ∧ L < 2 ^ (K + 4 * k) ∧ A < 2 ^ (K + 4 * k)) ∧ Below B0 w wr ∧ (B0 ≤ h0 ∧ B0 ≤ h2 ∧ B0 ≤ h3)) (fun t3 _ => F - lenOf t3)
  case atStart => exact ⟨0, F, T0, L0, A0, g0, g2, g3, v0, v2, v3, [], DS, [], by omega, rfl, hM1, hT, cx1, World.ownsRow_nil _ _ _ _, hS1, by intro s hs; simp [Value.ownBlock] at hs, ⟨HD.out.1, rfl, HD.out.2⟩, hbB, hB2, hB4, hB5⟩
  case round =>
    obtain ⟨k, f, T, L, A, h0, h2, h3, y0, y2, y3, ds, rest, ss, hkf, hdl, hM, hT, cx, hown, hS, hss, HI, hbel, hh0, hh2, hh3⟩ := hrel
    have HLen : Hid (lenOf u3 = k) := by
      rcases hown.2 with ⟨e1, e2⟩ | ⟨_, _, _, e1, _⟩
      · rw [e1, e2]; rfl
      · rw [e1]; rfl
    clear hbx hw1 hsz1 hM1 cx1 hS1 hbB HD hbs
    obtain ⟨bd, hbd⟩ : ∃ bd, bd = wr.heap.size := ⟨_, rfl⟩
    obtain ⟨wd, hwd⟩ : ∃ wd, wd = wr.alloc (.cells #[.int .u8 0] 5) := ⟨_, rfl⟩
    have hwb : Below wr.heap.size wr wd := by rw [hwd]; exact (Below.refl _ _).alloc (Nat.le_refl _) _
    have hwds : wd.heap.size = wr.heap.size + 1 := by rw [hwd]; simp
    have Fx := hS.facts
    have hMd := hM.below hwb Fx.2.2.2.2.2.1
    have cxd : wd.cell? ⟨bx, 0, none⟩ = some (.pointer (some ⟨b, 0, none⟩)) := by rw [hwb.cell (p := ⟨bx, 0, none⟩) Fx.2.2.2.2.2.2]; exact cx
    have cdd : wd.cell? ⟨bd, 0, none⟩ = some (.int .u8 ((0 : Nat) : Int)) := by rw [hwd, hbd]; simp
    have fdd : wd.frozen? ⟨bd, 0, none⟩ = false := by rw [hwd, hbd]; simp
    have hSd : Sep wd (b :: bx :: h0 :: g1 :: h2 :: h3 :: bd :: ss) := by rw [hbd]; exact Sep.new (p := [b, bx, h0, g1, h2, h3]) hS (by omega)
    have hownd := row_below hown hwb
    have hB0s : B0 ≤ wr.heap.size := by have := hbel.size; omega
    have hbeld : Below B0 w wd := hbel.trans (hwb.mono hB0s)
    have hBd : B0 ≤ bd := by omega
    clear hM cx hS hown
    go_wp2_with fail
    rw [← hwd, ← hbd]
    go_loopw [] (fun wi => ∃ (d Ti e0 : Nat) (z0 : Value), RM wi b e0 g1 h2 h3 z0 v1 y2 y3 Ti U L A ed ∧ d * U + Ti = T ∧ wi.cell? ⟨bd, 0, none⟩ = some (.int .u8 (d : Int)) ∧ wi.frozen? ⟨bd, 0, none⟩ = false ∧
        wi.cell? ⟨bx, 0, none⟩ = some (.pointer (some ⟨b, 0, none⟩)) ∧ Sep wi (b :: bx :: e0 :: g1 :: h2 :: h3 :: bd :: ss) ∧ wi.ownsRow B0 5 1 u3 k (c8 ds) ∧ Below B0 w wi ∧ B0 ≤ e0) (fun wi => 20 - dOf wi bd)
    case atStart => exact ⟨0, T, h0, y0, hMd, by omega, cdd, fdd, cxd, hSd, hownd, hbeld, hh0⟩
    case round =>
      obtain ⟨d, Ti, e0, z0, hM, hdT, cd, fd, cx, hS, hown, hbeli, he0⟩ := hrel
      have HC : Hid (∀ q, Calls Tryz.prog 66 #[z0, v1] (wr.drewN q) fun e w' => e = .returned (.int .i64 (cmpI Ti U)) ∧ ∃ q2, w' = (wr.drewN q).drewN q2) := fun q => compare_any _ _ e0 g1 Ti U _ hM.p0 hM.p1
      clear hbd hwd hwds hwb hMd cxd cdd fdd hSd hownd hbeld
      have Fi := hS.facts
      have HCD : Hid (dOf wr bd = d) := by show dOf wr bd = d; unfold dOf; rw [cd]; simp
      have hbd1 : bd ≠ b := (Sep.ne (p := [b, bx, e0, g1, h2, h3]) hS (by simp)).symm
      have hbd2 : bd ≠ bx := (Sep.ne (p := [b, bx, e0, g1, h2, h3]) hS (by simp)).symm
      have hbd3 : bd ≠ e0 := (Sep.ne (p := [b, bx, e0, g1, h2, h3]) hS (by simp)).symm
      have hbdl : bd < wr.heap.size := hS.2 bd (by simp)
      have c0 := hM.c0
      have c1 := hM.c1
      have f0 := hM.fz 0
      by_cases cT : U ≤ Ti
      · have hci : 0 ≤ cmpI Ti U := by
          rcases Nat.lt_or_ge U Ti with q | q
          · rw [cmpI_gt q]; decide
          · rw [cmpI_eq (by omega)]; decide
        have hd8 := dig_lt9 hdT hT cT
        have HX : Hid ((d + 1) * U + (Ti - U) = T) := dig_next hdT cT
        have HM : Hid (∀ u : World, u.heap = wr.heap → Calls Tryz.prog 68 #[z0, v1] u fun e w' => ∃ l4 p4, e = .returned (.slice (some ⟨e0, 0, none⟩) l4 p4) ∧ PR w' e0 (.slice (some ⟨e0, 0, none⟩) l4 p4) (Ti - U) ∧ u.grownBy w' (some e0) ∧ w'.cell? ⟨bx, 0, none⟩ = some (.pointer (some ⟨b, 0, none⟩)) ∧ w'.cell? ⟨b, 1, none⟩ = some v1 ∧ w'.cell? ⟨b, 0, none⟩ = some z0 ∧ w'.frozen? ⟨b, 0, none⟩ = false ∧ w'.cell? ⟨bd, 0, none⟩ = some (.int .u8 (d : Int)) ∧ w'.frozen? ⟨bd, 0, none⟩ = false) := by
          intro u hu
          refine (minus_any2 z0 v1 e0 g1 Ti U u (hM.p0.heap hu) (hM.p1.heap hu) Fi.2.2.1.1.symm cT).mono ?_
          rintro e w' ⟨v', rfl, hR', hg'⟩
          have hs : u.heap.size = wr.heap.size := by rw [hu]
          obtain ⟨l4, p4, rfl, _⟩ := hR'.form
          refine ⟨l4, p4, rfl, hR', hg', ?_, ?_, ?_, ?_, ?_, ?_⟩
          · rw [gb_cell hg' (by omega) Fi.2.1.1]; simp only [World.cell?, hu]; exact cx
          · rw [gb_cell hg' (by omega) Fi.1.2.1]; simp only [World.cell?, hu]; exact c1
          · rw [gb_cell hg' (by omega) Fi.1.2.1]; simp only [World.cell?, hu]; exact c0
          · rw [gb_frozen hg' (by omega) Fi.1.2.1]; simp only [World.frozen?, hu]; exact f0
          · rw [gb_cell hg' (by omega) hbd3]; simp only [World.cell?, hu]; exact cd
          · rw [gb_frozen hg' (by omega) hbd3]; simp only [World.frozen?, hu]; exact fd
        go_wp2_with fail
        go_quiet ((go_at_call 66; exact Calls.quiet_of (HC.out _)))
        go_wp2_with fail
        refine wp_region_held_drew (S := fun w' => w'.cell? ⟨bx, 0, none⟩ = some (.pointer (some ⟨b, 0, none⟩)) ∧ w'.cell? ⟨b, 1, none⟩ = some v1) (by kernel_rfl) ⟨cx, c1⟩ (fun hHeld => ?_)
        refine wpAnyH_take (i := 0) (v := ?vv1001) rfl (by kernel_rfl) (by kernel_rfl) (by kernel_rfl) (fun _ _ _ h => h) (Or.inl ⟨by rfl, ?hy1001⟩) (by assumption) ?_
        case hy1001 =>
          intro w hSw
          (try dsimp only at hSw)
          go_simp
          try with_reducible rfl
        try simp only [Act.put, List.setIfInBounds_toArray, List.set_cons_zero, List.set_cons_succ]
        refine wpAnyH_take (i := 1) (v := ?vv1002) rfl (by kernel_rfl) (by kernel_rfl) (by kernel_rfl) (fun _ _ _ h => h) (Or.inl ⟨by rfl, ?hy1002⟩) (by assumption) ?_
        case hy1002 =>
          intro w hSw
          (try dsimp only at hSw)
          go_simp
          try with_reducible rfl
        try simp only [Act.put, List.setIfInBounds_toArray, List.set_cons_zero, List.set_cons_succ]
        refine wpAnyH_take (i := 2) (v := ?vv1003) rfl (by kernel_rfl) (by kernel_rfl) (by kernel_rfl) (fun _ _ _ h => h) (Or.inl ⟨by rfl, ?hy1003⟩) (by assumption) ?_
        case hy1003 =>
          intro w hSw
          (try dsimp only at hSw)
          go_simp
          try with_reducible rfl
        try simp only [Act.put, List.setIfInBounds_toArray, List.set_cons_zero, List.set_cons_succ]
        refine wpAnyH_take (i := 3) (v := ?vv1004) rfl (by kernel_rfl) (by kernel_rfl) (by kernel_rfl) (fun _ _ _ h => h) (Or.inl ⟨by rfl, ?hy1004⟩) (by assumption) ?_
        case hy1004 =>
          intro w hSw
          (try dsimp only at hSw)
          go_simp
          try with_reducible rfl
        try simp only [Act.put, List.setIfInBounds_toArray, List.set_cons_zero, List.set_cons_succ]
        refine wpAnyH_take (i := 5) (v := ?vv1005) rfl (by kernel_rfl) (by kernel_rfl) (by kernel_rfl) (fun _ _ _ h => h) (Or.inl ⟨by rfl, ?hy1005⟩) (by assumption) ?_
        case hy1005 =>
          intro w hSw
          (try dsimp only at hSw)
          go_simp
          try with_reducible rfl
        try simp only [Act.put, List.setIfInBounds_toArray, List.set_cons_zero, List.set_cons_succ]
        refine wpAnyH_take (i := 6) (v := ?vv1006) rfl (by kernel_rfl) (by kernel_rfl) (by kernel_rfl) (fun _ _ _ h => h) (Or.inl ⟨by rfl, ?hy1006⟩) (by assumption) ?_
        case hy1006 =>
          intro w hSw
          (try dsimp only at hSw)
          go_simp
          try with_reducible rfl
        try simp only [Act.put, List.setIfInBounds_toArray, List.set_cons_zero, List.set_cons_succ]
        refine wpAnyH_take (i := 7) (v := ?vv1007) rfl (by kernel_rfl) (by kernel_rfl) (by kernel_rfl) (fun _ _ _ h => h) (Or.inl ⟨by rfl, ?hy1007⟩) (by assumption) ?_
        case hy1007 =>
          intro w hSw
          (try dsimp only at hSw)
          go_simp
          try with_reducible rfl
        try simp only [Act.put, List.setIfInBounds_toArray, List.set_cons_zero, List.set_cons_succ]
        refine wpAnyH_take (i := 8) (v := ?vv1008) rfl (by kernel_rfl) (by kernel_rfl) (by kernel_rfl) (fun _ _ _ h => h) (Or.inl ⟨by rfl, ?hy1008⟩) (by assumption) ?_
        case hy1008 =>
          intro w hSw
          (try dsimp only at hSw)
          go_simp
          try with_reducible rfl
        try simp only [Act.put, List.setIfInBounds_toArray, List.set_cons_zero, List.set_cons_succ]
        refine wpAnyH_ready (rs := [4]) (by kernel_rfl) (by simp) ?_
        refine AllReadyH.cons rfl (fun K hK => ?_) AllReadyH.nil
        go_simp
        refine hK.out _ _ ⟨cx, c1⟩ (fun hHeld => ?_)
        clear hK K
        try simp only [Act.put, List.setIfInBounds_toArray, List.set_cons_zero, List.set_cons_succ]
        refine wpAnyH_ready (rs := [9]) (by kernel_rfl) (by simp) ?_
        refine AllReadyH.cons rfl (fun K hK => ?_) AllReadyH.nil
        go_simp
        refine (HM.out (wr.drewN _) rfl).mono ?_
        rintro e w4 ⟨l4, p4, rfl, hR4, hg4, k1, k2, k3, k4, k5, k6⟩
        go_wp2_with fail
        refine hK.out _ _ ⟨k1, k2⟩ (fun hHeld => ?_)
        clear hK K
        try simp only [Act.put, List.setIfInBounds_toArray, List.set_cons_zero, List.set_cons_succ]
        refine wpAnyH_take (i := 10) (v := ?vv1009) rfl (by kernel_rfl) (by kernel_rfl) (by kernel_rfl) (fun _ _ _ h => h) (Or.inl ⟨by rfl, ?hy1009⟩) (by assumption) ?_
        case hy1009 =>
          intro w hSw
          (try dsimp only at hSw)
          go_simp
          try with_reducible rfl
        try simp only [Act.put, List.setIfInBounds_toArray, List.set_cons_zero, List.set_cons_succ]
        refine wpAnyH_take (i := 11) (v := ?vv1010) rfl (by kernel_rfl) (by kernel_rfl) (by kernel_rfl) (fun _ _ _ h => h) (Or.inl ⟨by rfl, ?hy1010⟩) (by assumption) ?_
        case hy1010 =>
          intro w hSw
          (try dsimp only at hSw)
          go_simp
          try with_reducible rfl
        try simp only [Act.put, List.setIfInBounds_toArray, List.set_cons_zero, List.set_cons_succ]
        refine wpAnyH_ready (rs := [12]) (by kernel_rfl) (by simp) ?_
        refine AllReadyH.cons rfl (fun K hK => ?_) AllReadyH.nil
        go_simp
        refine hK.out _ _ ⟨by rw [World.cell?_setCell_far _ _ _ _ (by simpa using Fi.1.1)]; exact k1, by rw [set_far _ _ _ _ _ (by decide)]; exact k2⟩ (fun hHeld => ?_)
        clear hK K
        try simp only [Act.put, List.setIfInBounds_toArray, List.set_cons_zero, List.set_cons_succ]
        refine wpAnyH_done (by kernel_rfl) ?_ _
        have cd5 : (w4.setCell ⟨b, 0, none⟩ (.slice (some ⟨e0, 0, none⟩) l4 p4)).cell? ⟨bd, 0, none⟩ = some (.int .u8 (d : Int)) := by rw [World.cell?_setCell_far _ _ _ _ (by simpa using hbd1.symm)]; exact k5
        have hmv : Mv wr w4 e0 e0 := ⟨gb_heap hg4 rfl rfl rfl rfl, Or.inl rfl⟩
        have hM5 := hM.put0 hS hmv hR4
        obtain ⟨w5, hw5⟩ : ∃ w5, w5 = w4.setCell ⟨b, 0, none⟩ (.slice (some ⟨e0, 0, none⟩) l4 p4) := ⟨_, rfl⟩
        have hg5 : w4.grownBy w5 (some b) := by rw [hw5]; exact gb_set _ _ _ _
        have fd5 : w5.frozen? ⟨bd, 0, none⟩ = false := by rw [hw5, World.frozen?_setCell]; exact k6
        have cx5 : w5.cell? ⟨bx, 0, none⟩ = some (.pointer (some ⟨b, 0, none⟩)) := by rw [hw5]; exact hHeld.1
        rw [← hw5] at cd5 hM5 ⊢
        clear hHeld k1 k2 k3 k4 k5 k6 cd fd hw5
        go_wp2_with fail
        have hg6 : w5.grownBy (w5.setCell ⟨bd, 0, none⟩ (.int .u8 ((d : Int) + 1))) (some bd) := gb_set _ _ _ _
        have hsw4 : wr.heap.size ≤ w4.heap.size := hmv.1.size
        have hsw5 : wr.heap.size ≤ w5.heap.size := Nat.le_trans hsw4 hg5.size
        have hsw6 := Nat.le_trans hsw5 hg6.size
        have hbel4 : Below B0 wr w4 := hmv.below (by have := hbeli.size; omega) he0
        have nb : ∀ x, x ∈ [b, bx, e0, g1, h2, h3] → x ≠ bd := fun x hx => Sep.ne (p := [b, bx, e0, g1, h2, h3]) hS (by simp only [List.mem_append]; exact Or.inl hx)
        refine ⟨⟨d + 1, Ti - U, e0, _, hM5.grown hg6 (Nat.lt_of_lt_of_le Fi.2.2.2.2.2.1 hsw5) (nb _ (by simp)) (nb _ (by simp)) (nb _ (by simp)) (nb _ (by simp)) (nb _ (by simp)), HX.out, set_same _ _ _ _ _ cd5, by rw [World.frozen?_setCell]; exact fd5, ?_, hS.size hsw6, ?_, ?_, he0⟩, ?_⟩
        · rw [World.cell?_setCell_far _ _ _ _ hbd2]; exact cx5
        · refine row_other (row_other (row_other hown hmv.1 ?_) hg5 ?_) hg6 ?_
          · intro s hs
            exact Sep.ne (p := [b, bx]) hS (by simp [hss s hs])
          · intro s hs
            exact Sep.ne (p := []) hS (by simp [hss s hs])
          · intro s hs
            exact Sep.ne (p := [b, bx, e0, g1, h2, h3]) hS (by simp [hss s hs])
        · exact ((hbeli.trans hbel4).trans ((Below.refl _ _).grown hg5 (by have := hbeli.size; omega) (by intro k hk; simp at hk; omega))).trans ((Below.refl _ _).grown hg6 (by have := hbeli.size; omega) (by intro k hk; simp at hk; omega))
        · have e1 : dOf (w5.setCell ⟨bd, 0, none⟩ (.int .u8 ((d : Int) + 1))) bd = d + 1 := by unfold dOf; rw [set_same _ _ _ _ _ cd5]; simp
          rw [e1, HCD.out]
          omega
      · have hci : cmpI Ti U < 0 := by rw [cmpI_lt (by omega)]; decide
        obtain ⟨hdq, hdr⟩ := dig_done hdT (by omega)
        have hd9 := dig_le9 hdT hT
        have HQ : Hid (T / U = d ∧ T % U = Ti) := ⟨hdq, hdr⟩
        clear hdq hdr
        go_wp2_with fail
        go_quiet ((go_at_call 66; exact Calls.quiet_of (HC.out _)))
        obtain ⟨wq, hwq⟩ : ∃ wq, wq = wr.drewN nq := ⟨_, rfl⟩
        have hMq : RM wq b e0 g1 h2 h3 z0 v1 y2 y3 Ti U L A ed := by rw [hwq]; exact hM.drewN nq
        have cxq : wq.cell? ⟨bx, 0, none⟩ = some (.pointer (some ⟨b, 0, none⟩)) := by rw [hwq]; exact cx
        have cdq : wq.cell? ⟨bd, 0, none⟩ = some (.int .u8 (d : Int)) := by rw [hwq]; exact cd
        have hSq : Sep wq (b :: bx :: e0 :: g1 :: h2 :: h3 :: bd :: ss) := by rw [hwq]; exact hS
        have hownq : wq.ownsRow B0 5 1 u3 k (c8 ds) := by rw [hwq]; exact hown
        have hbelq : Below B0 w wq := by rw [hwq]; exact below_drewN hbeli nq
        have Fq := hSq.facts
        have c0q := hMq.c0
        have c1q := hMq.c1
        rw [← hwq]
        clear hwq hM cx cd fd hS hown hbeli Fi hbdl c0 c1 f0 HC HCD
        have HS : Hid (∀ w', Below wq.heap.size wq w' → w'.cell? ⟨bx, 0, none⟩ = some (.pointer (some ⟨b, 0, none⟩)) ∧ w'.cell? ⟨b, 0, none⟩ = some z0 ∧ w'.cell? ⟨b, 1, none⟩ = some v1) := fun w' hB => ⟨by rw [hB.cell (p := ⟨bx, 0, none⟩) Fq.2.2.2.2.2.2]; exact cxq, by rw [hB.cell (p := ⟨b, 0, none⟩) Fq.2.2.2.2.2.1]; exact c0q, by rw [hB.cell (p := ⟨b, 1, none⟩) Fq.2.2.2.2.2.1]; exact c1q⟩
        have HT : Hid (∀ {u w' : World}, Below wq.heap.size wq u → Below u.heap.size u w' → Below wq.heap.size wq w') := fun h1 h2 => h1.trans (h2.mono h1.size)
        have HT2 : Hid (∀ {u : World} {g : Nat}, Below wq.heap.size wq u → u.heap.size ≤ g → wq.heap.size ≤ g) := fun h1 h2 => Nat.le_trans h1.size h2
        have HT3 : Hid (∀ {u w' : World} {g : Nat}, Below wq.heap.size wq u → u.grownBy w' (some g) → wq.heap.size ≤ g → Below wq.heap.size wq w') := fun h1 h2 h3 => h1.grown h2 h1.size (by intro k hk; simp at hk; omega)
        have HCl : Hid (∀ u : World, Below wq.heap.size wq u → Calls Tryz.prog 64 #[v1] u fun e w' => ∃ l c gc, e = .returned (.slice (some ⟨gc, 0, none⟩) l c) ∧ PR w' gc (.slice (some ⟨gc, 0, none⟩) l c) U ∧ Below u.heap.size u w' ∧ u.heap.size ≤ gc) := by
          intro u hu
          refine (clone_any v1 g1 U K u (hMq.p1.below hu hMq.p1.lt) hUK (by omega) hU).mono ?_
          rintro e w' ⟨v', gc, rfl, hR', hb', hg'⟩
          obtain ⟨l, c, rfl, _⟩ := hR'.form
          exact ⟨l, c, gc, rfl, hR', hb', hg'⟩
        have HMi : Hid (∀ (u : World) (gc : Nat) (v : Value), PR u gc v U → Below wq.heap.size wq u → wq.heap.size ≤ gc → Calls Tryz.prog 68 #[v, z0] u fun e w' => ∃ l c, e = .returned (.slice (some ⟨gc, 0, none⟩) l c) ∧ PR w' gc (.slice (some ⟨gc, 0, none⟩) l c) (U - Ti) ∧ u.grownBy w' (some gc)) := by
          intro u gc v hR hu hgc
          refine (minus_any2 v z0 gc e0 U Ti u hR (hMq.p0.below hu hMq.p0.lt) (by have := hMq.p0.lt; omega) (by omega)).mono ?_
          rintro e w' ⟨v', rfl, hR', hg'⟩
          obtain ⟨l, c, rfl, _⟩ := hR'.form
          exact ⟨l, c, rfl, hR', hg'⟩
        have hBq : Below wq.heap.size wq (wq.drewN 1) := below_drewN (Below.refl _ _) 1
        go_upto_region 6 with fail
        go_cut [5] from 8 to 89 (fun s5 wx => ∃ (bl gl : Nat) (lv : Value), s5 = .pointer (some ⟨bl, 0, none⟩) ∧ wx.cell? ⟨bl, 0, none⟩ = some lv ∧ PR wx gl lv (U - Ti) ∧ Below wq.heap.size wq wx)
        case first =>
          refine wp_region_held_drew (S := fun w' => w'.cell? ⟨bx, 0, none⟩ = some (.pointer (some ⟨b, 0, none⟩)) ∧ w'.cell? ⟨b, 0, none⟩ = some z0 ∧ w'.cell? ⟨b, 1, none⟩ = some v1) (by kernel_rfl) ⟨cxq, c0q, c1q⟩ (fun hHeld => ?_)
          refine wpAnyH_take (i := 0) (v := ?vv1011) rfl (by kernel_rfl) (by kernel_rfl) (by kernel_rfl) (fun _ _ _ h => h) (Or.inl ⟨by rfl, ?hy1011⟩) (by assumption) ?_
          case hy1011 =>
            intro w hSw
            (try dsimp only at hSw)
            go_simp
            try with_reducible rfl
          try simp only [Act.put, List.setIfInBounds_toArray, List.set_cons_zero, List.set_cons_succ]
          refine wpAnyH_take (i := 1) (v := ?vv1012) rfl (by kernel_rfl) (by kernel_rfl) (by kernel_rfl) (fun _ _ _ h => h) (Or.inl ⟨by rfl, ?hy1012⟩) (by assumption) ?_
          case hy1012 =>
            intro w hSw
            (try dsimp only at hSw)
            go_simp
            try with_reducible rfl
          try simp only [Act.put, List.setIfInBounds_toArray, List.set_cons_zero, List.set_cons_succ]
          refine wpAnyH_take (i := 2) (v := ?vv1013) rfl (by kernel_rfl) (by kernel_rfl) (by kernel_rfl) (fun _ _ _ h => h) (Or.inl ⟨by rfl, ?hy1013⟩) (by assumption) ?_
          case hy1013 =>
            intro w hSw
            (try dsimp only at hSw)
            go_simp
            try with_reducible rfl
          try simp only [Act.put, List.setIfInBounds_toArray, List.set_cons_zero, List.set_cons_succ]
          refine wpAnyH_take (i := 3) (v := ?vv1014) rfl (by kernel_rfl) (by kernel_rfl) (by kernel_rfl) (fun _ _ _ h => h) (Or.inl ⟨by rfl, ?hy1014⟩) (by assumption) ?_
          case hy1014 =>
            intro w hSw
            (try dsimp only at hSw)
            go_simp
            try with_reducible rfl
          try simp only [Act.put, List.setIfInBounds_toArray, List.set_cons_zero, List.set_cons_succ]
          refine wpAnyH_take (i := 5) (v := ?vv1015) rfl (by kernel_rfl) (by kernel_rfl) (by kernel_rfl) (fun _ _ _ h => h) (Or.inl ⟨by rfl, ?hy1015⟩) (by assumption) ?_
          case hy1015 =>
            intro w hSw
            (try dsimp only at hSw)
            go_simp
            try with_reducible rfl
          try simp only [Act.put, List.setIfInBounds_toArray, List.set_cons_zero, List.set_cons_succ]
          refine wpAnyH_take (i := 6) (v := ?vv1016) rfl (by kernel_rfl) (by kernel_rfl) (by kernel_rfl) (fun _ _ _ h => h) (Or.inl ⟨by rfl, ?hy1016⟩) (by assumption) ?_
          case hy1016 =>
            intro w hSw
            (try dsimp only at hSw)
            go_simp
            try with_reducible rfl
          try simp only [Act.put, List.setIfInBounds_toArray, List.set_cons_zero, List.set_cons_succ]
          refine wpAnyH_take (i := 7) (v := ?vv1017) rfl (by kernel_rfl) (by kernel_rfl) (by kernel_rfl) (fun _ _ _ h => h) (Or.inl ⟨by rfl, ?hy1017⟩) (by assumption) ?_
          case hy1017 =>
            intro w hSw
            (try dsimp only at hSw)
            go_simp
            try with_reducible rfl
          try simp only [Act.put, List.setIfInBounds_toArray, List.set_cons_zero, List.set_cons_succ]
          refine wpAnyH_take (i := 8) (v := ?vv1018) rfl (by kernel_rfl) (by kernel_rfl) (by kernel_rfl) (fun _ _ _ h => h) (Or.inl ⟨by rfl, ?hy1018⟩) (by assumption) ?_
          case hy1018 =>
            intro w hSw
            (try dsimp only at hSw)
            go_simp
            try with_reducible rfl
          try simp only [Act.put, List.setIfInBounds_toArray, List.set_cons_zero, List.set_cons_succ]
          refine wpAnyH_ready (rs := [4, 10]) (by kernel_rfl) (by simp) ?_
          refine AllReadyH.cons rfl (fun K hK => ?_) (AllReadyH.cons rfl (fun K hK => ?_) AllReadyH.nil)
          · go_simp
            refine (HCl.out _ hBq).mono ?_
            rintro e w6 ⟨l6, p6, gc, rfl, hR6, hb6, hgc⟩
            have hB6 := HT.out hBq hb6
            have hgc2 := HT2.out hBq hgc
            go_wp2_with fail
            clear hHeld
            refine hK.out _ _ (HS.out _ hB6) (fun hHeld => ?_)
            clear hK K
            try simp only [Act.put, List.setIfInBounds_toArray, List.set_cons_zero, List.set_cons_succ]
            refine wpAnyH_ready (rs := [9, 10]) (by kernel_rfl) (by simp) ?_
            refine AllReadyH.cons rfl (fun K hK => ?_) (AllReadyH.cons rfl (fun K hK => ?_) AllReadyH.nil)
            · go_simp
              refine (HMi.out _ gc _ hR6 hB6 hgc2).mono ?_
              rintro e w7 ⟨l7, p7, rfl, hR7, hg7⟩
              have hB7 := HT3.out hB6 hg7 hgc2
              go_wp2_with fail
              clear hHeld
              refine hK.out _ _ (HS.out _ hB7) (fun hHeld => ?_)
              clear hK K
              try simp only [Act.put, List.setIfInBounds_toArray, List.set_cons_zero, List.set_cons_succ]
              refine wpAnyH_ready (rs := [10]) (by kernel_rfl) (by simp) ?_
              refine AllReadyH.cons rfl (fun K hK => ?_) AllReadyH.nil
              go_simp
              clear hHeld
              refine hK.out _ _ (HS.out _ (hB7.alloc hB7.size _)) (fun hHeld => ?_)
              clear hK K
              try simp only [Act.put, List.setIfInBounds_toArray, List.set_cons_zero, List.set_cons_succ]
              refine wpAnyH_ready (rs := [11]) (by kernel_rfl) (by simp) ?_
              refine AllReadyH.cons rfl (fun K hK => ?_) AllReadyH.nil
              go_simp
              clear hHeld
              refine hK.out _ _ (HS.out _ (hB7.alloc hB7.size _)) (fun hHeld => ?_)
              clear hK K
              try simp only [Act.put, List.setIfInBounds_toArray, List.set_cons_zero, List.set_cons_succ]
              refine wpAnyH_done (by kernel_rfl) ?_ _
              go_wp2_with fail
              go_meet
              exact ⟨w7.heap.size, gc, _, rfl, by simp, hR7.below ((Below.refl _ _).alloc (Nat.le_refl _) _) hR7.lt, hB7.alloc hB7.size _⟩
            · go_simp
              clear hHeld
              refine hK.out _ _ (HS.out _ (hB6.alloc hB6.size _)) (fun hHeld => ?_)
              clear hK K
              try simp only [Act.put, List.setIfInBounds_toArray, List.set_cons_zero, List.set_cons_succ]
              refine wpAnyH_ready (rs := [9]) (by kernel_rfl) (by simp) ?_
              refine AllReadyH.cons rfl (fun K hK => ?_) AllReadyH.nil
              go_simp
              refine (HMi.out _ gc _ (hR6.below ((Below.refl _ _).alloc (Nat.le_refl _) _) hR6.lt) (hB6.alloc hB6.size _) hgc2).mono ?_
              rintro e w7 ⟨l7, p7, rfl, hR7, hg7⟩
              have hB7 := HT3.out (hB6.alloc hB6.size _) hg7 hgc2
              have k1 : w7.cell? ⟨w6.heap.size, 0, none⟩ = some (.slice none 0 0) := by rw [gb_cell hg7 (by simp) (by have := hR6.lt; omega)]; simp
              have k2 : w7.frozen? ⟨w6.heap.size, 0, none⟩ = false := by rw [gb_frozen hg7 (by simp) (by have := hR6.lt; omega)]; simp
              go_wp2_with fail
              clear hHeld
              refine hK.out _ _ (HS.out _ hB7) (fun hHeld => ?_)
              clear hK K
              try simp only [Act.put, List.setIfInBounds_toArray, List.set_cons_zero, List.set_cons_succ]
              refine wpAnyH_ready (rs := [11]) (by kernel_rfl) (by simp) ?_
              refine AllReadyH.cons rfl (fun K hK => ?_) AllReadyH.nil
              go_simp
              clear hHeld
              refine hK.out _ _ (HS.out _ (hB7.setCell (p := ⟨w6.heap.size, 0, none⟩) hB6.size _)) (fun hHeld => ?_)
              clear hK K
              try simp only [Act.put, List.setIfInBounds_toArray, List.set_cons_zero, List.set_cons_succ]
              refine wpAnyH_done (by kernel_rfl) ?_ _
              go_wp2_with fail
              go_meet
              exact ⟨w6.heap.size, gc, _, rfl, set_same _ _ _ _ _ k1, hR7.other (gb_set _ _ _ _) (by have := hR6.lt; omega), hB7.setCell (p := ⟨w6.heap.size, 0, none⟩) hB6.size _⟩
          · go_simp
            clear hHeld
            refine hK.out _ _ (HS.out _ (Below.drew ((Below.refl wq.heap.size wq).alloc (Nat.le_refl _) _))) (fun hHeld => ?_)
            clear hK K
            try simp only [Act.put, List.setIfInBounds_toArray, List.set_cons_zero, List.set_cons_succ]
            have hBa : Below wq.heap.size wq (wq.alloc (.cells #[.slice none 0 0] 59)).drew := (Below.drew ((Below.refl wq.heap.size wq).alloc (Nat.le_refl _) _))
            refine wpAnyH_ready (rs := [4]) (by kernel_rfl) (by simp) ?_
            refine AllReadyH.cons rfl (fun K hK => ?_) AllReadyH.nil
            go_simp
            refine (HCl.out _ hBa).mono ?_
            rintro e w6 ⟨l6, p6, gc, rfl, hR6, hb6, hgc⟩
            have hB6 := HT.out hBa hb6
            have hgc2 := HT2.out hBa hgc
            go_wp2_with fail
            have hgc3 : wq.heap.size + 1 ≤ gc := by have := hgc; simp at this; omega
            have j1 : w6.cell? ⟨wq.heap.size, 0, none⟩ = some (.slice none 0 0) := by rw [hb6.cell (p := ⟨wq.heap.size, 0, none⟩) (by simp)]; simp
            have j2 : w6.frozen? ⟨wq.heap.size, 0, none⟩ = false := by rw [hb6.frozen (p := ⟨wq.heap.size, 0, none⟩) (by simp)]; simp
            have hs6 : wq.heap.size < w6.heap.size := by have := hb6.size; simp at this; omega
            clear hHeld
            refine hK.out _ _ (HS.out _ hB6) (fun hHeld => ?_)
            clear hK K
            try simp only [Act.put, List.setIfInBounds_toArray, List.set_cons_zero, List.set_cons_succ]
            refine wpAnyH_ready (rs := [9]) (by kernel_rfl) (by simp) ?_
            refine AllReadyH.cons rfl (fun K hK => ?_) AllReadyH.nil
            go_simp
            refine (HMi.out _ gc _ hR6 hB6 hgc2).mono ?_
            rintro e w7 ⟨l7, p7, rfl, hR7, hg7⟩
            have hB7 := HT3.out hB6 hg7 hgc2
            have k1 : w7.cell? ⟨wq.heap.size, 0, none⟩ = some (.slice none 0 0) := by rw [gb_cell hg7 hs6 (by omega)]; exact j1
            have k2 : w7.frozen? ⟨wq.heap.size, 0, none⟩ = false := by rw [gb_frozen hg7 hs6 (by omega)]; exact j2
            go_wp2_with fail
            clear hHeld
            refine hK.out _ _ (HS.out _ hB7) (fun hHeld => ?_)
            clear hK K
            try simp only [Act.put, List.setIfInBounds_toArray, List.set_cons_zero, List.set_cons_succ]
            refine wpAnyH_ready (rs := [11]) (by kernel_rfl) (by simp) ?_
            refine AllReadyH.cons rfl (fun K hK => ?_) AllReadyH.nil
            go_simp
            clear hHeld
            refine hK.out _ _ (HS.out _ (hB7.setCell (p := ⟨wq.heap.size, 0, none⟩) (Nat.le_refl _) _)) (fun hHeld => ?_)
            clear hK K
            try simp only [Act.put, List.setIfInBounds_toArray, List.set_cons_zero, List.set_cons_succ]
            refine wpAnyH_done (by kernel_rfl) ?_ _
            go_wp2_with fail
            go_meet
            exact ⟨wq.heap.size, gc, _, rfl, set_same _ _ _ _ _ k1, hR7.other (gb_set _ _ _ _) (by omega), hB7.setCell (p := ⟨wq.heap.size, 0, none⟩) (Nat.le_refl _) _⟩
        case rest =>
          obtain ⟨bl, gl, lv, rfl, cl, hRl, hBc⟩ := hcut
          have hMc := hMq.below hBc Fq.2.2.2.2.2.1
          have cxc : wc.cell? ⟨bx, 0, none⟩ = some (.pointer (some ⟨b, 0, none⟩)) := by rw [hBc.cell (p := ⟨bx, 0, none⟩) Fq.2.2.2.2.2.2]; exact cxq
          have cdc : wc.cell? ⟨bd, 0, none⟩ = some (.int .u8 (d : Int)) := by rw [hBc.cell (p := ⟨bd, 0, none⟩) (hSq.2 bd (by simp))]; exact cdq
          have hSc := hSq.size hBc.size
          have hownc := row_below hownq hBc
          have hB0q : B0 ≤ wq.heap.size := by have := hbelq.size; have := hbel.size; omega
          have hbelc : Below B0 w wc := hbelq.trans (hBc.mono hB0q)
          have Fc := hSc.facts
          have c0c := hMc.c0
          have c2c := hMc.c2
          clear hMq cxq cdq hSq hownq hbelq Fq c0q c1q HS HT HT2 HT3 HCl HMi hBq hBc
          obtain ⟨st, hst⟩ : ∃ st, st = wit ed Ti L := ⟨_, rfl⟩
          have HW : Hid (∀ u : World, Below wc.heap.size wc u → Calls Tryz.prog 69 #[.pointer (some ⟨b, 0, none⟩), z0, y2] u fun e w' => e = .returned (.bool st) ∧ ∃ q, w' = u.drewN q) := by
            intro u hu
            rw [hst]
            have hMu := hMc.below hu Fc.2.2.2.2.2.1
            exact within_any b e0 h2 Ti L z0 y2 ed u hMu.p0 hMu.p2 hMu.c4
          have HS7 : Hid (∀ w', Below wc.heap.size wc w' → w'.cell? ⟨bx, 0, none⟩ = some (.pointer (some ⟨b, 0, none⟩)) ∧ w'.cell? ⟨b, 0, none⟩ = some z0 ∧ w'.cell? ⟨b, 2, none⟩ = some y2) := fun w' hB => ⟨by rw [hB.cell (p := ⟨bx, 0, none⟩) Fc.2.2.2.2.2.2]; exact cxc, by rw [hB.cell (p := ⟨b, 0, none⟩) Fc.2.2.2.2.2.1]; exact c0c, by rw [hB.cell (p := ⟨b, 2, none⟩) Fc.2.2.2.2.2.1]; exact c2c⟩
          have HST : Hid (st = wit ed Ti L) := hst
          clear hst
          go_upto_region 7 with fail
          go_cut [6] from 8 to 89 (fun s6 wx => ∃ (bm : Nat), s6 = .pointer (some ⟨bm, 0, none⟩) ∧ wx.cell? ⟨bm, 0, none⟩ = some (.bool st) ∧ Below wc.heap.size wc wx ∧ wc.heap.size ≤ bm)
          case first =>
            refine wp_region_held_drew (S := fun w' => w'.cell? ⟨bx, 0, none⟩ = some (.pointer (some ⟨b, 0, none⟩)) ∧ w'.cell? ⟨b, 0, none⟩ = some z0 ∧ w'.cell? ⟨b, 2, none⟩ = some y2) (by kernel_rfl) ⟨cxc, c0c, c2c⟩ (fun hHeld => ?_)
            refine wpAnyH_take (i := 0) (v := ?vv1019) rfl (by kernel_rfl) (by kernel_rfl) (by kernel_rfl) (fun _ _ _ h => h) (Or.inl ⟨by rfl, ?hy1019⟩) (by assumption) ?_
            case hy1019 =>
              intro w hSw
              (try dsimp only at hSw)
              go_simp
              try with_reducible rfl
            try simp only [Act.put, List.setIfInBounds_toArray, List.set_cons_zero, List.set_cons_succ]
            refine wpAnyH_take (i := 1) (v := ?vv1020) rfl (by kernel_rfl) (by kernel_rfl) (by kernel_rfl) (fun _ _ _ h => h) (Or.inl ⟨by rfl, ?hy1020⟩) (by assumption) ?_
            case hy1020 =>
              intro w hSw
              (try dsimp only at hSw)
              go_simp
              try with_reducible rfl
            try simp only [Act.put, List.setIfInBounds_toArray, List.set_cons_zero, List.set_cons_succ]
            refine wpAnyH_take (i := 2) (v := ?vv1021) rfl (by kernel_rfl) (by kernel_rfl) (by kernel_rfl) (fun _ _ _ h => h) (Or.inl ⟨by rfl, ?hy1021⟩) (by assumption) ?_
            case hy1021 =>
              intro w hSw
              (try dsimp only at hSw)
              go_simp
              try with_reducible rfl
            try simp only [Act.put, List.setIfInBounds_toArray, List.set_cons_zero, List.set_cons_succ]
            refine wpAnyH_take (i := 3) (v := ?vv1022) rfl (by kernel_rfl) (by kernel_rfl) (by kernel_rfl) (fun _ _ _ h => h) (Or.inl ⟨by rfl, ?hy1022⟩) (by assumption) ?_
            case hy1022 =>
              intro w hSw
              (try dsimp only at hSw)
              go_simp
              try with_reducible rfl
            try simp only [Act.put, List.setIfInBounds_toArray, List.set_cons_zero, List.set_cons_succ]
            refine wpAnyH_take (i := 4) (v := ?vv1023) rfl (by kernel_rfl) (by kernel_rfl) (by kernel_rfl) (fun _ _ _ h => h) (Or.inl ⟨by rfl, ?hy1023⟩) (by assumption) ?_
            case hy1023 =>
              intro w hSw
              (try dsimp only at hSw)
              go_simp
              try with_reducible rfl
            try simp only [Act.put, List.setIfInBounds_toArray, List.set_cons_zero, List.set_cons_succ]
            refine wpAnyH_take (i := 5) (v := ?vv1024) rfl (by kernel_rfl) (by kernel_rfl) (by kernel_rfl) (fun _ _ _ h => h) (Or.inl ⟨by rfl, ?hy1024⟩) (by assumption) ?_
            case hy1024 =>
              intro w hSw
              (try dsimp only at hSw)
              go_simp
              try with_reducible rfl
            try simp only [Act.put, List.setIfInBounds_toArray, List.set_cons_zero, List.set_cons_succ]
            refine wpAnyH_take (i := 6) (v := ?vv1025) rfl (by kernel_rfl) (by kernel_rfl) (by kernel_rfl) (fun _ _ _ h => h) (Or.inl ⟨by rfl, ?hy1025⟩) (by assumption) ?_
            case hy1025 =>
              intro w hSw
              (try dsimp only at hSw)
              go_simp
              try with_reducible rfl
            try simp only [Act.put, List.setIfInBounds_toArray, List.set_cons_zero, List.set_cons_succ]
            refine wpAnyH_take (i := 7) (v := ?vv1026) rfl (by kernel_rfl) (by kernel_rfl) (by kernel_rfl) (fun _ _ _ h => h) (Or.inl ⟨by rfl, ?hy1026⟩) (by assumption) ?_
            case hy1026 =>
              intro w hSw
              (try dsimp only at hSw)
              go_simp
              try with_reducible rfl
            try simp only [Act.put, List.setIfInBounds_toArray, List.set_cons_zero, List.set_cons_succ]
            refine wpAnyH_take (i := 8) (v := ?vv1027) rfl (by kernel_rfl) (by kernel_rfl) (by kernel_rfl) (fun _ _ _ h => h) (Or.inl ⟨by rfl, ?hy1027⟩) (by assumption) ?_
            case hy1027 =>
              intro w hSw
              (try dsimp only at hSw)
              go_simp
              try with_reducible rfl
            try simp only [Act.put, List.setIfInBounds_toArray, List.set_cons_zero, List.set_cons_succ]
            refine wpAnyH_ready (rs := [9, 10]) (by kernel_rfl) (by simp) ?_
            refine AllReadyH.cons rfl (fun K hK => ?_) (AllReadyH.cons rfl (fun K hK => ?_) AllReadyH.nil)
            · go_simp
              refine (HW.out (wc.drewN _) (below_drewN (Below.refl wc.heap.size wc) _)).mono ?_
              rintro e w6 ⟨rfl, q, hq⟩
              have hB6 : Below wc.heap.size wc w6 := by rw [hq]; exact below_drewN (below_drewN (Below.refl _ _) _) _
              clear hq
              go_wp2_with fail
              clear hHeld
              refine hK.out _ _ (HS7.out _ hB6) (fun hHeld => ?_)
              clear hK K
              try simp only [Act.put, List.setIfInBounds_toArray, List.set_cons_zero, List.set_cons_succ]
              refine wpAnyH_ready (rs := [10]) (by kernel_rfl) (by simp) ?_
              refine AllReadyH.cons rfl (fun K hK => ?_) AllReadyH.nil
              go_simp
              clear hHeld
              refine hK.out _ _ (HS7.out _ (hB6.alloc hB6.size _)) (fun hHeld => ?_)
              clear hK K
              try simp only [Act.put, List.setIfInBounds_toArray, List.set_cons_zero, List.set_cons_succ]
              refine wpAnyH_ready (rs := [11]) (by kernel_rfl) (by simp) ?_
              refine AllReadyH.cons rfl (fun K hK => ?_) AllReadyH.nil
              go_simp
              clear hHeld
              refine hK.out _ _ (HS7.out _ (hB6.alloc hB6.size _)) (fun hHeld => ?_)
              clear hK K
              try simp only [Act.put, List.setIfInBounds_toArray, List.set_cons_zero, List.set_cons_succ]
              refine wpAnyH_done (by kernel_rfl) ?_ _
              go_wp2_with fail
              go_meet
              exact ⟨w6.heap.size, rfl, by simp, hB6.alloc hB6.size _, hB6.size⟩
            · go_simp
              clear hHeld
              refine hK.out _ _ (HS7.out _ (Below.drew ((Below.refl wc.heap.size wc).alloc (Nat.le_refl _) _))) (fun hHeld => ?_)
              clear hK K
              try simp only [Act.put, List.setIfInBounds_toArray, List.set_cons_zero, List.set_cons_succ]
              refine wpAnyH_ready (rs := [9]) (by kernel_rfl) (by simp) ?_
              refine AllReadyH.cons rfl (fun K hK => ?_) AllReadyH.nil
              go_simp
              refine (HW.out _ (Below.drew ((Below.refl wc.heap.size wc).alloc (Nat.le_refl _) _))).mono ?_
              rintro e w6 ⟨rfl, q, hq⟩
              have hB6 : Below wc.heap.size wc w6 := by rw [hq]; exact below_drewN (Below.drew ((Below.refl wc.heap.size wc).alloc (Nat.le_refl _) _)) _
              have k1 : w6.cell? ⟨wc.heap.size, 0, none⟩ = some (.bool false) := by rw [hq]; simp
              have k2 : w6.frozen? ⟨wc.heap.size, 0, none⟩ = false := by rw [hq]; simp
              clear hq
              go_wp2_with fail
              clear hHeld
              refine hK.out _ _ (HS7.out _ hB6) (fun hHeld => ?_)
              clear hK K
              try simp only [Act.put, List.setIfInBounds_toArray, List.set_cons_zero, List.set_cons_succ]
              refine wpAnyH_ready (rs := [11]) (by kernel_rfl) (by simp) ?_
              refine AllReadyH.cons rfl (fun K hK => ?_) AllReadyH.nil
              go_simp
              clear hHeld
              refine hK.out _ _ (HS7.out _ (hB6.setCell (p := ⟨wc.heap.size, 0, none⟩) (Nat.le_refl _) _)) (fun hHeld => ?_)
              clear hK K
              try simp only [Act.put, List.setIfInBounds_toArray, List.set_cons_zero, List.set_cons_succ]
              refine wpAnyH_done (by kernel_rfl) ?_ _
              go_wp2_with fail
              go_meet
              exact ⟨wc.heap.size, rfl, set_same _ _ _ _ _ k1, hB6.setCell (p := ⟨wc.heap.size, 0, none⟩) (Nat.le_refl _) _, Nat.le_refl _⟩
          case rest =>
            obtain ⟨bm, rfl, cm, hBm, hbm⟩ := hcut
            rename World => wm
            have hMm := hMc.below hBm Fc.2.2.2.2.2.1
            have cxm : wm.cell? ⟨bx, 0, none⟩ = some (.pointer (some ⟨b, 0, none⟩)) := by rw [hBm.cell (p := ⟨bx, 0, none⟩) Fc.2.2.2.2.2.2]; exact cxc
            have cdm : wm.cell? ⟨bd, 0, none⟩ = some (.int .u8 (d : Int)) := by rw [hBm.cell (p := ⟨bd, 0, none⟩) (hSc.2 bd (by simp))]; exact cdc
            have clm : wm.cell? ⟨bl, 0, none⟩ = some lv := by rw [hBm.cell (p := ⟨bl, 0, none⟩) (World.block_lt_of_cell? _ _ cl)]; exact cl
            have hRm := hRl.below hBm hRl.lt
            have hSm := hSc.size hBm.size
            have hownm := row_below hownc hBm
            have hB0c : B0 ≤ wc.heap.size := by have := hbelc.size; have := hbel.size; omega
            have hbelm : Below B0 w wm := hbelc.trans (hBm.mono hB0c)
            have Fm := hSm.facts
            have hbmne : ∀ x, x ∈ (b :: bx :: e0 :: g1 :: h2 :: h3 :: bd :: ss) → x ≠ bm := fun x hx => by have := hSc.2 x hx; omega
            have hbml : bm < wm.heap.size := World.block_lt_of_cell? _ _ cm
            clear hMc cxc cdc hSc hownc hbelc Fc c0c c2c HW HS7 hRl cl hBm
            obtain ⟨mo, hmo⟩ : ∃ mo, mo = moreB ed st (U - Ti) Ti A d := ⟨_, rfl⟩
            have HMo : Hid (Calls Tryz.prog 70 #[.pointer (some ⟨bl, 0, none⟩), .pointer (some ⟨bx, 0, none⟩), .pointer (some ⟨bd, 0, none⟩), .pointer (some ⟨bm, 0, none⟩)] wm fun e w' => e = .returned (.bool mo) ∧ ∃ q, w' = wm.drewN q) := by
              rw [hmo]
              exact more_any bl bx bd bm b gl e0 h3 (U - Ti) Ti A d lv z0 y3 ed st wm (by omega) clm cxm cdm cm hMm.c0 hMm.c3 hMm.c4 hRm hMm.p0 hMm.p3
            have HMO : Hid (mo = moreB ed st (U - Ti) Ti A d) := hmo
            clear hmo
            have hmf : ∀ (fn : Fn) (first cap : Array Value) (w : World), (Instr.makeFunc fn first cap).run Tryz.prog w = .ok (.func fn first cap) w := fun _ _ _ _ => rfl
            obtain ⟨i0, hi, hz0, hz1, hz2⟩ := info_parts info8
            have hk1000 : k ≤ 1000 := by omega
            go_wp2_with fail
            refine HMo.out.mono ?_
            rintro e w8 ⟨rfl, q, hq⟩
            have hM8 : RM w8 b e0 g1 h2 h3 z0 v1 y2 y3 Ti U L A ed := by rw [hq]; exact hMm.drewN q
            have cx8 : w8.cell? ⟨bx, 0, none⟩ = some (.pointer (some ⟨b, 0, none⟩)) := by rw [hq]; exact cxm
            have cd8 : w8.cell? ⟨bd, 0, none⟩ = some (.int .u8 (d : Int)) := by rw [hq]; exact cdm
            have cm8 : w8.cell? ⟨bm, 0, none⟩ = some (.bool st) := by rw [hq]; exact cm
            have hS8 : Sep w8 (b :: bx :: e0 :: g1 :: h2 :: h3 :: bd :: ss) := by rw [hq]; exact hSm
            have hown8 : w8.ownsRow B0 5 1 u3 k (c8 ds) := by rw [hq]; exact hownm
            have hbel8 : Below B0 w w8 := by rw [hq]; exact below_drewN hbelm q
            have hbml8 : bm < w8.heap.size := by rw [hq]; exact hbml
            have hB08 : B0 ≤ w8.heap.size := by have := hbel8.size; have := hbel.size; omega
            clear hq hMm cxm cdm cm clm hRm hSm hownm hbelm Fm hbml HMo hmf
            have F8 := hS8.facts
            cases mo
            · have hown2 : (w8.alloc (.cells #[.int .u8 (d : Int)] 5)).ownsRow B0 5 1 u3 k (c8 ds) := row_below hown8 ((Below.refl _ _).alloc (Nat.le_refl _) _)
              have hB0a : B0 ≤ (w8.alloc (.cells #[.int .u8 (d : Int)] 5)).heap.size := by simp; omega
              have hsa : (w8.alloc (.cells #[.int .u8 (d : Int)] 5)).heap.size = w8.heap.size + 1 := by simp
              have hBa8 : Below w8.heap.size w8 (w8.alloc (.cells #[.int .u8 (d : Int)] 5)) := (Below.refl _ _).alloc (Nat.le_refl _) _
              go_wp2_with (at_builtin; refine wpList_append_lies _ rfl _ _ 65 rfl B0 5 i0 (.int .u8 0) 1 1 Tryz.underlying65 hi hz0 hz1 hz2 rfl (by decide) _ k (c8 ds) rfl hown2 ⟨w8.heap.size, 0, none⟩ 1 1 [.int .u8 (d : Int)] rfl rfl (cell_one_new _ _ _) (by intro u hu; simp at hu; subst hu; rfl) (by decide) (by unfold maxLen; omega) (by omega) hB0a _ rfl ?_)
              intro g9 c9 w9 hown9 hgrow9 hat9 hlt9
              obtain ⟨s0, hg0, hs0⟩ := row_free hgrow9 rfl
              have hs0m : s0 ∈ ss ∨ s0 = w8.heap.size + 1 := by
                rcases hs0 with h | h
                · exact Or.inl (hss s0 h)
                · right; rw [h, hsa]
              have nS : ∀ y, y ∈ [b, bx, e0, g1, h2, h3, bd] → y ≠ s0 := by
                intro y hy
                rcases hs0m with h | h
                · intro e
                  have hn := hS8.1
                  rw [show b :: bx :: e0 :: g1 :: h2 :: h3 :: bd :: ss = [b, bx, e0, g1, h2, h3, bd] ++ ss from rfl, List.nodup_append] at hn
                  exact hn.2.2 y hy s0 h e
                · have := hS8.2 y (by rw [show b :: bx :: e0 :: g1 :: h2 :: h3 :: bd :: ss = [b, bx, e0, g1, h2, h3, bd] ++ ss from rfl]; simp only [List.mem_append]; exact Or.inl hy)
                  omega
              have nM : bm ≠ s0 := by
                rcases hs0m with h | h
                · exact (hbmne s0 (by simp [h])).symm
                · omega
              have n9 : g9 ∉ [b, bx, e0, g1, h2, h3] := by
                intro hm
                rcases hat9 with h | h
                · have h5 := hss g9 h
                  have hn := hS8.1
                  rw [show b :: bx :: e0 :: g1 :: h2 :: h3 :: bd :: ss = [b, bx, e0, g1, h2, h3] ++ (bd :: ss) from rfl, List.nodup_append] at hn
                  exact hn.2.2 g9 hm g9 (by simp [h5]) rfl
                · have := hS8.2 g9 (by rw [show b :: bx :: e0 :: g1 :: h2 :: h3 :: bd :: ss = [b, bx, e0, g1, h2, h3] ++ (bd :: ss) from rfl]; simp only [List.mem_append]; exact Or.inl hm)
                  omega
              have hs9 : w8.heap.size + 1 ≤ w9.heap.size := by have := hg0.size; omega
              have hMa := hM8.below hBa8 F8.2.2.2.2.2.1
              have hM9 := hMa.grown hg0 (by have := F8.2.2.2.2.2.1; omega) (nS _ (by simp)) (nS _ (by simp)) (nS _ (by simp)) (nS _ (by simp)) (nS _ (by simp))
              have cx9 : w9.cell? ⟨bx, 0, none⟩ = some (.pointer (some ⟨b, 0, none⟩)) := by rw [gb_cell hg0 (by have := F8.2.2.2.2.2.2; omega) (nS _ (by simp)), hBa8.cell (p := ⟨bx, 0, none⟩) F8.2.2.2.2.2.2]; exact cx8
              have cm9 : w9.cell? ⟨bm, 0, none⟩ = some (.bool st) := by rw [gb_cell hg0 (by omega) nM, hBa8.cell (p := ⟨bm, 0, none⟩) hbml8]; exact cm8
              have hS9 : Sep w9 (b :: bx :: e0 :: g1 :: h2 :: h3 :: [g9]) := Sep.keep (p := [b, bx, e0, g1, h2, h3]) (r := bd :: ss) hS8 (by omega) n9 hlt9
              have hbel9 : Below B0 w w9 := (hbel8.alloc hB08 _).grown hgrow9 hB0a (fun s hs => (hown2.lt s hs).1)
              have hown9b : w9.ownsRow B0 5 1 (.slice (some ⟨g9, 0, none⟩) (k + 1) c9) (k + 1) (c8 (ds ++ [d])) := by rw [← c8_snoc]; exact hown9
              clear hown9 hgrow9 hat9 hown2 hB0a hsa hBa8 hg0 hs0 hs0m nS nM hMa hM8 cx8 cd8 cm8 hS8 hown8 hbel8 F8 n9 hss
              cases st
              · have HN : Hid (∃ f' r', f = f' + 1 ∧ rest = d :: r' ∧ digF U ed f' (Ti * 10) (L * 10) (A * 10) = some r') := digF_next HI.out.1 HQ.out (by rw [← HST.out]; exact HMO.out.symm) HST.out.symm
                have F9 := hS9.facts
                have hB09 : B0 ≤ w9.heap.size := by omega
                have c10 := hM9.c0
                have f10 := hM9.fz 0
                have HT10 : Hid (∀ u : World, (u.heap = w9.heap ∧ u.os = w9.os ∧ u.tape = w9.tape ∧ u.output = w9.output) → Calls Tryz.prog 65 #[z0, .int .u32 10, .int .u32 0] u fun e w' => ∃ l p g', e = .returned (.slice (some ⟨g', 0, none⟩) l p) ∧ PR w' g' (.slice (some ⟨g', 0, none⟩) l p) (Ti * 10) ∧ Mv w9 w' e0 g' ∧ w'.cell? ⟨bx, 0, none⟩ = some (.pointer (some ⟨b, 0, none⟩)) ∧ w'.cell? ⟨b, 0, none⟩ = some z0 ∧ w'.frozen? ⟨b, 0, none⟩ = false) := by
                  rintro u ⟨hu, hu1, hu2, hu3⟩
                  refine (times_lit 10 _ rfl z0 e0 Ti _ u (hM9.p0.heap hu) (Nat.lt_trans (show Ti < U by omega) hUK) (by omega) (by decide) (by decide)).mono ?_
                  rintro e w' ⟨v', g', rfl, hR', hm'⟩
                  obtain ⟨l, p, rfl, _⟩ := hR'.form
                  have hs : u.heap.size = w9.heap.size := by rw [hu]
                  have hbl := F9.2.2.2.2.2
                  refine ⟨l, p, g', rfl, hR', ⟨gb_heap hm'.1 hu hu1 hu2 hu3, by rw [← hs]; exact hm'.2⟩, ?_, ?_, ?_⟩
                  · rw [gb_cell hm'.1 (by omega) F9.2.1.1]; simp only [World.cell?, hu]; exact cx9
                  · rw [gb_cell hm'.1 (by omega) F9.1.2.1]; simp only [World.cell?, hu]; exact c10
                  · rw [gb_frozen hm'.1 (by omega) F9.1.2.1]; simp only [World.frozen?, hu]; exact f10
                go_wp2_with fail
                refine wp_region_held_drew (S := fun w' => w'.cell? ⟨bx, 0, none⟩ = some (.pointer (some ⟨b, 0, none⟩))) (by kernel_rfl) cx9 (fun hHeld => ?_)
                refine wpAnyH_take (i := 0) (v := ?vv1028) rfl (by kernel_rfl) (by kernel_rfl) (by kernel_rfl) (fun _ _ _ h => h) (Or.inl ⟨by rfl, ?hy1028⟩) (by assumption) ?_
                case hy1028 =>
                  intro w hSw
                  (try dsimp only at hSw)
                  go_simp
                  try with_reducible rfl
                try simp only [Act.put, List.setIfInBounds_toArray, List.set_cons_zero, List.set_cons_succ]
                refine wpAnyH_take (i := 1) (v := ?vv1029) rfl (by kernel_rfl) (by kernel_rfl) (by kernel_rfl) (fun _ _ _ h => h) (Or.inl ⟨by rfl, ?hy1029⟩) (by assumption) ?_
                case hy1029 =>
                  intro w hSw
                  (try dsimp only at hSw)
                  go_simp
                  try with_reducible rfl
                try simp only [Act.put, List.setIfInBounds_toArray, List.set_cons_zero, List.set_cons_succ]
                refine wpAnyH_take (i := 2) (v := ?vv1030) rfl (by kernel_rfl) (by kernel_rfl) (by kernel_rfl) (fun _ _ _ h => h) (Or.inl ⟨by rfl, ?hy1030⟩) (by assumption) ?_
                case hy1030 =>
                  intro w hSw
                  (try dsimp only at hSw)
                  go_simp
                  try with_reducible rfl
                try simp only [Act.put, List.setIfInBounds_toArray, List.set_cons_zero, List.set_cons_succ]
                refine wpAnyH_take (i := 3) (v := ?vv1031) rfl (by kernel_rfl) (by kernel_rfl) (by kernel_rfl) (fun _ _ _ h => h) (Or.inl ⟨by rfl, ?hy1031⟩) (by assumption) ?_
                case hy1031 =>
                  intro w hSw
                  (try dsimp only at hSw)
                  go_simp
                  try with_reducible rfl
                try simp only [Act.put, List.setIfInBounds_toArray, List.set_cons_zero, List.set_cons_succ]
                refine wpAnyH_ready (rs := [4]) (by kernel_rfl) (by simp) ?_
                refine AllReadyH.cons rfl (fun K hK => ?_) AllReadyH.nil
                go_simp
                clear hHeld
                refine hK.out _ _ cx9 (fun hHeld => ?_)
                clear hK K
                try simp only [Act.put, List.setIfInBounds_toArray, List.set_cons_zero, List.set_cons_succ]
                refine wpAnyH_ready (rs := [5]) (by kernel_rfl) (by simp) ?_
                refine AllReadyH.cons rfl (fun K hK => ?_) AllReadyH.nil
                go_simp
                refine Calls.mono (HT10.out _ ?he10) ?_
                case he10 => exact ⟨rfl, rfl, rfl, rfl⟩
                rintro e x10 ⟨l10, p10, q10, rfl, hR10, hm10, k1, k2, k3⟩
                go_wp2_with fail
                clear hHeld
                refine hK.out _ _ k1 (fun hHeld => ?_)
                clear hK K
                try simp only [Act.put, List.setIfInBounds_toArray, List.set_cons_zero, List.set_cons_succ]
                refine wpAnyH_take (i := 6) (v := ?vv1032) rfl (by kernel_rfl) (by kernel_rfl) (by kernel_rfl) (fun _ _ _ h => h) (Or.inl ⟨by rfl, ?hy1032⟩) (by assumption) ?_
                case hy1032 =>
                  intro w hSw
                  (try dsimp only at hSw)
                  go_simp
                  try with_reducible rfl
                try simp only [Act.put, List.setIfInBounds_toArray, List.set_cons_zero, List.set_cons_succ]
                refine wpAnyH_take (i := 7) (v := ?vv1033) rfl (by kernel_rfl) (by kernel_rfl) (by kernel_rfl) (fun _ _ _ h => h) (Or.inl ⟨by rfl, ?hy1033⟩) (by assumption) ?_
                case hy1033 =>
                  intro w hSw
                  (try dsimp only at hSw)
                  go_simp
                  try with_reducible rfl
                try simp only [Act.put, List.setIfInBounds_toArray, List.set_cons_zero, List.set_cons_succ]
                refine wpAnyH_ready (rs := [8]) (by kernel_rfl) (by simp) ?_
                refine AllReadyH.cons rfl (fun K hK => ?_) AllReadyH.nil
                go_simp
                clear hHeld
                refine hK.out _ _ (by rw [World.cell?_setCell_far _ _ _ _ (by simpa using F9.1.1)]; exact k1) (fun hHeld => ?_)
                clear hK K
                try simp only [Act.put, List.setIfInBounds_toArray, List.set_cons_zero, List.set_cons_succ]
                refine wpAnyH_done (by kernel_rfl) ?_ _
                obtain ⟨w10, hw10⟩ : ∃ w10, w10 = x10.setCell ⟨b, 0, none⟩ (.slice (some ⟨q10, 0, none⟩) l10 p10) := ⟨_, rfl⟩
                have gS10 : x10.grownBy w10 (some b) := by rw [hw10]; exact gb_set _ _ _ _
                have hM10 := hM9.put0 hS9 hm10 hR10
                have cx10 : w10.cell? ⟨bx, 0, none⟩ = some (.pointer (some ⟨b, 0, none⟩)) := by rw [hw10]; exact hHeld
                rw [← hw10] at hM10 ⊢
                have hS10 := (Sep.mv (p := [b, bx]) hS9 hm10 hR10.lt).size gS10.size
                have hown10 := row_other (row_other hown9b hm10.1 (by intro s hs; simp [Value.ownBlock] at hs; rw [← hs]; exact Sep.ne (p := [b, bx]) hS9 (by simp))) gS10 (by intro s hs; simp [Value.ownBlock] at hs; rw [← hs]; exact Sep.ne (p := []) hS9 (by simp))
                have hsz10 : B0 ≤ w9.heap.size := by have := hbel9.size; have := hbel.size; omega
                have hbel10 : Below B0 w w10 := (hbel9.trans (hm10.below hsz10 he0)).grown gS10 (by have := hm10.1.size; omega) (by intro s hs; simp at hs; omega)
                have he10 : B0 ≤ q10 := hm10.ge hsz10 he0
                have F10 := hS10.facts
                clear hHeld k1 k2 k3 hw10 gS10 HT10 c10 f10
                clear hM9 hS9 cx9 hown9b hbel9 F9 cm9
                have c11 := hM10.c2
                have f11 := hM10.fz 2
                have HT11 : Hid (∀ u : World, (u.heap = w10.heap ∧ u.os = w10.os ∧ u.tape = w10.tape ∧ u.output = w10.output) → Calls Tryz.prog 65 #[y2, .int .u32 10, .int .u32 0] u fun e w' => ∃ l p g', e = .returned (.slice (some ⟨g', 0, none⟩) l p) ∧ PR w' g' (.slice (some ⟨g', 0, none⟩) l p) (L * 10) ∧ Mv w10 w' h2 g' ∧ w'.cell? ⟨bx, 0, none⟩ = some (.pointer (some ⟨b, 0, none⟩)) ∧ w'.cell? ⟨b, 2, none⟩ = some y2 ∧ w'.frozen? ⟨b, 2, none⟩ = false) := by
                  rintro u ⟨hu, hu1, hu2, hu3⟩
                  refine (times_lit 10 _ rfl y2 h2 L _ u (hM10.p2.heap hu) HI.out.2.2.1 (by omega) (by decide) (by decide)).mono ?_
                  rintro e w' ⟨v', g', rfl, hR', hm'⟩
                  obtain ⟨l, p, rfl, _⟩ := hR'.form
                  have hs : u.heap.size = w10.heap.size := by rw [hu]
                  have hbl := F10.2.2.2.2.2
                  refine ⟨l, p, g', rfl, hR', ⟨gb_heap hm'.1 hu hu1 hu2 hu3, by rw [← hs]; exact hm'.2⟩, ?_, ?_, ?_⟩
                  · rw [gb_cell hm'.1 (by omega) F10.2.1.2.2.1]; simp only [World.cell?, hu]; exact cx10
                  · rw [gb_cell hm'.1 (by omega) F10.1.2.2.2.1]; simp only [World.cell?, hu]; exact c11
                  · rw [gb_frozen hm'.1 (by omega) F10.1.2.2.2.1]; simp only [World.frozen?, hu]; exact f11
                go_wp2_with fail
                refine wp_region_held_drew (S := fun w' => w'.cell? ⟨bx, 0, none⟩ = some (.pointer (some ⟨b, 0, none⟩))) (by kernel_rfl) cx10 (fun hHeld => ?_)
                refine wpAnyH_take (i := 0) (v := ?vv1034) rfl (by kernel_rfl) (by kernel_rfl) (by kernel_rfl) (fun _ _ _ h => h) (Or.inl ⟨by rfl, ?hy1034⟩) (by assumption) ?_
                case hy1034 =>
                  intro w hSw
                  (try dsimp only at hSw)
                  go_simp
                  try with_reducible rfl
                try simp only [Act.put, List.setIfInBounds_toArray, List.set_cons_zero, List.set_cons_succ]
                refine wpAnyH_take (i := 1) (v := ?vv1035) rfl (by kernel_rfl) (by kernel_rfl) (by kernel_rfl) (fun _ _ _ h => h) (Or.inl ⟨by rfl, ?hy1035⟩) (by assumption) ?_
                case hy1035 =>
                  intro w hSw
                  (try dsimp only at hSw)
                  go_simp
                  try with_reducible rfl
                try simp only [Act.put, List.setIfInBounds_toArray, List.set_cons_zero, List.set_cons_succ]
                refine wpAnyH_take (i := 2) (v := ?vv1036) rfl (by kernel_rfl) (by kernel_rfl) (by kernel_rfl) (fun _ _ _ h => h) (Or.inl ⟨by rfl, ?hy1036⟩) (by assumption) ?_
                case hy1036 =>
                  intro w hSw
                  (try dsimp only at hSw)
                  go_simp
                  try with_reducible rfl
                try simp only [Act.put, List.setIfInBounds_toArray, List.set_cons_zero, List.set_cons_succ]
                refine wpAnyH_take (i := 3) (v := ?vv1037) rfl (by kernel_rfl) (by kernel_rfl) (by kernel_rfl) (fun _ _ _ h => h) (Or.inl ⟨by rfl, ?hy1037⟩) (by assumption) ?_
                case hy1037 =>
                  intro w hSw
                  (try dsimp only at hSw)
                  go_simp
                  try with_reducible rfl
                try simp only [Act.put, List.setIfInBounds_toArray, List.set_cons_zero, List.set_cons_succ]
                refine wpAnyH_ready (rs := [4]) (by kernel_rfl) (by simp) ?_
                refine AllReadyH.cons rfl (fun K hK => ?_) AllReadyH.nil
                go_simp
                clear hHeld
                refine hK.out _ _ cx10 (fun hHeld => ?_)
                clear hK K
                try simp only [Act.put, List.setIfInBounds_toArray, List.set_cons_zero, List.set_cons_succ]
                refine wpAnyH_ready (rs := [5]) (by kernel_rfl) (by simp) ?_
                refine AllReadyH.cons rfl (fun K hK => ?_) AllReadyH.nil
                go_simp
                refine Calls.mono (HT11.out _ ?he11) ?_
                case he11 => exact ⟨rfl, rfl, rfl, rfl⟩
                rintro e x11 ⟨l11, p11, q11, rfl, hR11, hm11, k1, k2, k3⟩
                go_wp2_with fail
                clear hHeld
                refine hK.out _ _ k1 (fun hHeld => ?_)
                clear hK K
                try simp only [Act.put, List.setIfInBounds_toArray, List.set_cons_zero, List.set_cons_succ]
                refine wpAnyH_take (i := 6) (v := ?vv1038) rfl (by kernel_rfl) (by kernel_rfl) (by kernel_rfl) (fun _ _ _ h => h) (Or.inl ⟨by rfl, ?hy1038⟩) (by assumption) ?_
                case hy1038 =>
                  intro w hSw
                  (try dsimp only at hSw)
                  go_simp
                  try with_reducible rfl
                try simp only [Act.put, List.setIfInBounds_toArray, List.set_cons_zero, List.set_cons_succ]
                refine wpAnyH_take (i := 7) (v := ?vv1039) rfl (by kernel_rfl) (by kernel_rfl) (by kernel_rfl) (fun _ _ _ h => h) (Or.inl ⟨by rfl, ?hy1039⟩) (by assumption) ?_
                case hy1039 =>
                  intro w hSw
                  (try dsimp only at hSw)
                  go_simp
                  try with_reducible rfl
                try simp only [Act.put, List.setIfInBounds_toArray, List.set_cons_zero, List.set_cons_succ]
                refine wpAnyH_ready (rs := [8]) (by kernel_rfl) (by simp) ?_
                refine AllReadyH.cons rfl (fun K hK => ?_) AllReadyH.nil
                go_simp
                clear hHeld
                refine hK.out _ _ (by rw [World.cell?_setCell_far _ _ _ _ (by simpa using F10.1.1)]; exact k1) (fun hHeld => ?_)
                clear hK K
                try simp only [Act.put, List.setIfInBounds_toArray, List.set_cons_zero, List.set_cons_succ]
                refine wpAnyH_done (by kernel_rfl) ?_ _
                obtain ⟨w11, hw11⟩ : ∃ w11, w11 = x11.setCell ⟨b, 2, none⟩ (.slice (some ⟨q11, 0, none⟩) l11 p11) := ⟨_, rfl⟩
                have gS11 : x11.grownBy w11 (some b) := by rw [hw11]; exact gb_set _ _ _ _
                have hM11 := hM10.put2 hS10 hm11 hR11
                have cx11 : w11.cell? ⟨bx, 0, none⟩ = some (.pointer (some ⟨b, 0, none⟩)) := by rw [hw11]; exact hHeld
                rw [← hw11] at hM11 ⊢
                have hS11 := (Sep.mv (p := [b, bx, q10, g1]) hS10 hm11 hR11.lt).size gS11.size
                have hown11 := row_other (row_other hown10 hm11.1 (by intro s hs; simp [Value.ownBlock] at hs; rw [← hs]; exact Sep.ne (p := [b, bx, q10, g1]) hS10 (by simp))) gS11 (by intro s hs; simp [Value.ownBlock] at hs; rw [← hs]; exact Sep.ne (p := []) hS10 (by simp))
                have hsz11 : B0 ≤ w10.heap.size := by have := hbel10.size; have := hbel.size; omega
                have hbel11 : Below B0 w w11 := (hbel10.trans (hm11.below hsz11 hh2)).grown gS11 (by have := hm11.1.size; omega) (by intro s hs; simp at hs; omega)
                have he11 : B0 ≤ q11 := hm11.ge hsz11 hh2
                have F11 := hS11.facts
                clear hHeld k1 k2 k3 hw11 gS11 HT11 c11 f11
                clear hM10 hS10 cx10 hown10 hbel10 F10
                have c12 := hM11.c3
                have f12 := hM11.fz 3
                have HT12 : Hid (∀ u : World, (u.heap = w11.heap ∧ u.os = w11.os ∧ u.tape = w11.tape ∧ u.output = w11.output) → Calls Tryz.prog 65 #[y3, .int .u32 10, .int .u32 0] u fun e w' => ∃ l p g', e = .returned (.slice (some ⟨g', 0, none⟩) l p) ∧ PR w' g' (.slice (some ⟨g', 0, none⟩) l p) (A * 10) ∧ Mv w11 w' h3 g' ∧ w'.cell? ⟨bx, 0, none⟩ = some (.pointer (some ⟨b, 0, none⟩)) ∧ w'.cell? ⟨b, 3, none⟩ = some y3 ∧ w'.frozen? ⟨b, 3, none⟩ = false) := by
                  rintro u ⟨hu, hu1, hu2, hu3⟩
                  refine (times_lit 10 _ rfl y3 h3 A _ u (hM11.p3.heap hu) HI.out.2.2.2 (by omega) (by decide) (by decide)).mono ?_
                  rintro e w' ⟨v', g', rfl, hR', hm'⟩
                  obtain ⟨l, p, rfl, _⟩ := hR'.form
                  have hs : u.heap.size = w11.heap.size := by rw [hu]
                  have hbl := F11.2.2.2.2.2
                  refine ⟨l, p, g', rfl, hR', ⟨gb_heap hm'.1 hu hu1 hu2 hu3, by rw [← hs]; exact hm'.2⟩, ?_, ?_, ?_⟩
                  · rw [gb_cell hm'.1 (by omega) F11.2.1.2.2.2]; simp only [World.cell?, hu]; exact cx11
                  · rw [gb_cell hm'.1 (by omega) F11.1.2.2.2.2]; simp only [World.cell?, hu]; exact c12
                  · rw [gb_frozen hm'.1 (by omega) F11.1.2.2.2.2]; simp only [World.frozen?, hu]; exact f12
                go_wp2_with fail
                refine wp_region_held_drew (S := fun w' => w'.cell? ⟨bx, 0, none⟩ = some (.pointer (some ⟨b, 0, none⟩))) (by kernel_rfl) cx11 (fun hHeld => ?_)
                refine wpAnyH_take (i := 0) (v := ?vv1040) rfl (by kernel_rfl) (by kernel_rfl) (by kernel_rfl) (fun _ _ _ h => h) (Or.inl ⟨by rfl, ?hy1040⟩) (by assumption) ?_
                case hy1040 =>
                  intro w hSw
                  (try dsimp only at hSw)
                  go_simp
                  try with_reducible rfl
                try simp only [Act.put, List.setIfInBounds_toArray, List.set_cons_zero, List.set_cons_succ]
                refine wpAnyH_take (i := 1) (v := ?vv1041) rfl (by kernel_rfl) (by kernel_rfl) (by kernel_rfl) (fun _ _ _ h => h) (Or.inl ⟨by rfl, ?hy1041⟩) (by assumption) ?_
                case hy1041 =>
                  intro w hSw
                  (try dsimp only at hSw)
                  go_simp
                  try with_reducible rfl
                try simp only [Act.put, List.setIfInBounds_toArray, List.set_cons_zero, List.set_cons_succ]
                refine wpAnyH_take (i := 2) (v := ?vv1042) rfl (by kernel_rfl) (by kernel_rfl) (by kernel_rfl) (fun _ _ _ h => h) (Or.inl ⟨by rfl, ?hy1042⟩) (by assumption) ?_
                case hy1042 =>
                  intro w hSw
                  (try dsimp only at hSw)
                  go_simp
                  try with_reducible rfl
                try simp only [Act.put, List.setIfInBounds_toArray, List.set_cons_zero, List.set_cons_succ]
                refine wpAnyH_take (i := 3) (v := ?vv1043) rfl (by kernel_rfl) (by kernel_rfl) (by kernel_rfl) (fun _ _ _ h => h) (Or.inl ⟨by rfl, ?hy1043⟩) (by assumption) ?_
                case hy1043 =>
                  intro w hSw
                  (try dsimp only at hSw)
                  go_simp
                  try with_reducible rfl
                try simp only [Act.put, List.setIfInBounds_toArray, List.set_cons_zero, List.set_cons_succ]
                refine wpAnyH_ready (rs := [4]) (by kernel_rfl) (by simp) ?_
                refine AllReadyH.cons rfl (fun K hK => ?_) AllReadyH.nil
                go_simp
                clear hHeld
                refine hK.out _ _ cx11 (fun hHeld => ?_)
                clear hK K
                try simp only [Act.put, List.setIfInBounds_toArray, List.set_cons_zero, List.set_cons_succ]
                refine wpAnyH_ready (rs := [5]) (by kernel_rfl) (by simp) ?_
                refine AllReadyH.cons rfl (fun K hK => ?_) AllReadyH.nil
                go_simp
                refine Calls.mono (HT12.out _ ?he12) ?_
                case he12 => exact ⟨rfl, rfl, rfl, rfl⟩
                rintro e x12 ⟨l12, p12, q12, rfl, hR12, hm12, k1, k2, k3⟩
                go_wp2_with fail
                clear hHeld
                refine hK.out _ _ k1 (fun hHeld => ?_)
                clear hK K
                try simp only [Act.put, List.setIfInBounds_toArray, List.set_cons_zero, List.set_cons_succ]
                refine wpAnyH_take (i := 6) (v := ?vv1044) rfl (by kernel_rfl) (by kernel_rfl) (by kernel_rfl) (fun _ _ _ h => h) (Or.inl ⟨by rfl, ?hy1044⟩) (by assumption) ?_
                case hy1044 =>
                  intro w hSw
                  (try dsimp only at hSw)
                  go_simp
                  try with_reducible rfl
                try simp only [Act.put, List.setIfInBounds_toArray, List.set_cons_zero, List.set_cons_succ]
                refine wpAnyH_take (i := 7) (v := ?vv1045) rfl (by kernel_rfl) (by kernel_rfl) (by kernel_rfl) (fun _ _ _ h => h) (Or.inl ⟨by rfl, ?hy1045⟩) (by assumption) ?_
                case hy1045 =>
                  intro w hSw
                  (try dsimp only at hSw)
                  go_simp
                  try with_reducible rfl
                try simp only [Act.put, List.setIfInBounds_toArray, List.set_cons_zero, List.set_cons_succ]
                refine wpAnyH_ready (rs := [8]) (by kernel_rfl) (by simp) ?_
                refine AllReadyH.cons rfl (fun K hK => ?_) AllReadyH.nil
                go_simp
                clear hHeld
                refine hK.out _ _ (by rw [World.cell?_setCell_far _ _ _ _ (by simpa using F11.1.1)]; exact k1) (fun hHeld => ?_)
                clear hK K
                try simp only [Act.put, List.setIfInBounds_toArray, List.set_cons_zero, List.set_cons_succ]
                refine wpAnyH_done (by kernel_rfl) ?_ _
                obtain ⟨w12, hw12⟩ : ∃ w12, w12 = x12.setCell ⟨b, 3, none⟩ (.slice (some ⟨q12, 0, none⟩) l12 p12) := ⟨_, rfl⟩
                have gS12 : x12.grownBy w12 (some b) := by rw [hw12]; exact gb_set _ _ _ _
                have hM12 := hM11.put3 hS11 hm12 hR12
                have cx12 : w12.cell? ⟨bx, 0, none⟩ = some (.pointer (some ⟨b, 0, none⟩)) := by rw [hw12]; exact hHeld
                rw [← hw12] at hM12 ⊢
                have hS12 := (Sep.mv (p := [b, bx, q10, g1, q11]) hS11 hm12 hR12.lt).size gS12.size
                have hown12 := row_other (row_other hown11 hm12.1 (by intro s hs; simp [Value.ownBlock] at hs; rw [← hs]; exact Sep.ne (p := [b, bx, q10, g1, q11]) hS11 (by simp))) gS12 (by intro s hs; simp [Value.ownBlock] at hs; rw [← hs]; exact Sep.ne (p := []) hS11 (by simp))
                have hsz12 : B0 ≤ w11.heap.size := by have := hbel11.size; have := hbel.size; omega
                have hbel12 : Below B0 w w12 := (hbel11.trans (hm12.below hsz12 hh3)).grown gS12 (by have := hm12.1.size; omega) (by intro s hs; simp at hs; omega)
                have he12 : B0 ≤ q12 := hm12.ge hsz12 hh3
                have F12 := hS12.facts
                clear hHeld k1 k2 k3 hw12 gS12 HT12 c12 f12
                obtain ⟨f', r', hf', hr', hd'⟩ := HN.out
                go_wp2_with fail
                go_roundw
                case rel =>
                  refine ⟨k + 1, f', Ti * 10, L * 10, A * 10, q10, q11, q12, _, _, _, ds ++ [d], r', [g9], by omega, by rw [List.length_append, hdl]; rfl, hM12, by omega, cx12, hown12, hS12, ?_, ⟨hd', ?_, times16 HI.out.2.2.1, times16 HI.out.2.2.2⟩, hbel12, he10, he11, he12⟩
                  · intro s hs
                    simp [Value.ownBlock] at hs
                    simp [hs.symm]
                  · rw [List.append_assoc]
                    have := HI.out.2.1
                    rw [hr'] at this
                    exact this
                case measure =>
                  have := HLen.out
                  simp [lenOf] at this ⊢
                  omega
              · have HR : Hid (ds ++ [d] = DS) := by
                  have hr := digF_stay HI.out.1 HQ.out (by rw [← HST.out]; exact HMO.out.symm) HST.out.symm
                  have := HI.out.2.1
                  rw [hr] at this
                  exact this
                have HF : Hid (w9.ownsRow B0 5 1 (.slice (some ⟨g9, 0, none⟩) (k + 1) c9) DS.length (c8 DS) ∧ Below B0 w w9) := by
                  have e2 : DS.length = k + 1 := by rw [← HR.out, List.length_append, hdl]; rfl
                  rw [e2, ← HR.out]
                  exact ⟨hown9b, hbel9⟩
                go_wp2
                go_ret
                exact ⟨_, rfl, HF.out⟩
            · have HR : Hid (ds ++ [d + 1] = DS) := by
                have hr := digF_more HI.out.1 HQ.out (by rw [← HST.out]; exact HMO.out.symm)
                have := HI.out.2.1
                rw [hr] at this
                exact this
              have hown2 : (w8.alloc (.cells #[.int .u8 ((d : Int) + 1)] 5)).ownsRow B0 5 1 u3 k (c8 ds) := row_below hown8 ((Below.refl _ _).alloc (Nat.le_refl _) _)
              have hB0a : B0 ≤ (w8.alloc (.cells #[.int .u8 ((d : Int) + 1)] 5)).heap.size := by simp; omega
              go_wp2_with (at_builtin; refine wpList_append_lies _ rfl _ _ 65 rfl B0 5 i0 (.int .u8 0) 1 1 Tryz.underlying65 hi hz0 hz1 hz2 rfl (by decide) _ k (c8 ds) rfl hown2 ⟨w8.heap.size, 0, none⟩ 1 1 [.int .u8 ((d : Int) + 1)] rfl rfl (cell_one_new _ _ _) (by intro u hu; simp at hu; subst hu; rfl) (by decide) (by unfold maxLen; omega) (by omega) hB0a _ rfl ?_)
              intro g9 c9 w9 hown9 hgrow9 hat9 hlt9
              have HF : Hid (w9.ownsRow B0 5 1 (.slice (some ⟨g9, 0, none⟩) (k + 1) c9) DS.length (c8 DS) ∧ Below B0 w w9) := by
                have e1 : c8 ds ++ [.int .u8 ((d : Int) + 1)] = c8 DS := by rw [← HR.out, ← c8_snoc]; rfl
                rw [e1] at hown9
                have e2 : DS.length = k + 1 := by rw [← HR.out, List.length_append, hdl]; rfl
                rw [e2]
                exact ⟨hown9, (hbel8.alloc hB08 _).grown hgrow9 hB0a (fun s hs => (hown2.lt s hs).1)⟩
              clear hown9 hgrow9 hat9 hlt9 hown2
              go_wp2
              go_ret
              exact ⟨_, rfl, HF.out⟩

end Go.Proofs.YtgbajhenmamjjaaGreatDoor
