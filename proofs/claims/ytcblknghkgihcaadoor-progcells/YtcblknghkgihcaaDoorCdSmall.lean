/-
  Layer 7: how many cells a tree has, and how deep it lies; the reference's Small, walked.
-/
import Derived.Test.YtcblknghkgihcaaDoorCdTree
namespace Go.Proofs.YtcblknghkgihcaaDoor
set_option maxRecDepth 100000
open Go.RowKit Crc

def Tr.cnt : Tr → Nat
  | .mk _ _ _ l => 1 + (l.map Tr.cnt).sum
def cnts (l : List Tr) : Nat := (l.map Tr.cnt).sum
theorem Tr.cnt_mk (k : Int) (n : Nat) (s : ByteArray) (l : List Tr) : (Tr.mk k n s l).cnt = 1 + cnts l := by rw [Tr.cnt]; rfl
theorem cnts_nil : cnts [] = 0 := rfl
theorem cnts_cons (t : Tr) (l : List Tr) : cnts (t :: l) = t.cnt + cnts l := by unfold cnts; simp

def Tr.dep : Tr → Nat
  | .mk _ _ _ l => (l.map (fun t => t.dep + 1)).foldr max 0
def deps (l : List Tr) : Nat := (l.map (fun t => t.dep + 1)).foldr max 0
theorem Tr.dep_mk (k : Int) (n : Nat) (s : ByteArray) (l : List Tr) : (Tr.mk k n s l).dep = deps l := by rw [Tr.dep]; rfl
theorem deps_nil : deps [] = 0 := rfl
theorem deps_cons (t : Tr) (l : List Tr) : deps (t :: l) = max (t.dep + 1) (deps l) := rfl

theorem cnts_append (l m : List Tr) : cnts (l ++ m) = cnts l + cnts m := by
  induction l with
  | nil => simp [cnts_nil]
  | cons t l ih => simp only [List.cons_append, cnts_cons, ih]; omega
theorem deps_append (l m : List Tr) : deps (l ++ m) = max (deps l) (deps m) := by
  induction l with
  | nil => simp [deps_nil]
  | cons t l ih => simp only [List.cons_append, deps_cons, ih]; omega
theorem cnts_take (l : List Tr) (i : Nat) (h : i < l.length) : cnts (l.take (i + 1)) = cnts (l.take i) + l[i].cnt := by
  rw [List.take_succ_eq_append_getElem h, cnts_append]; simp [cnts_cons, cnts_nil]
theorem deps_take (l : List Tr) (i : Nat) (h : i < l.length) : deps (l.take (i + 1)) = max (deps (l.take i)) (l[i].dep + 1) := by
  rw [List.take_succ_eq_append_getElem h, deps_append]; simp [deps_cons, deps_nil]
theorem cnt_pos (t : Tr) : 1 ≤ t.cnt := by cases t; rw [Tr.cnt_mk]; omega

/-- What Small tells. -/
def Told (t : Tr) (most : Int) (D n : Nat) (ok : Bool) : Prop := 1 ≤ n ∧ (n : Int) ≤ max most 0 + D + 1 ∧ (ok = true → n = t.cnt ∧ t.dep + 1 ≤ D ∧ (n = 1 ∨ (n : Int) ≤ most))

set_option maxHeartbeats 2000000 in
theorem small_any : ∀ (D : Nat), D ≤ 101 → ∀ (t : Tr) (v : Value) (w : World) (most : Int), CR w t v → (D : Int) - 1000 ≤ most → most ≤ 1000000 →
    Calls Tryd.prog 17 #[v, .int .i64 most, .int .i64 (101 - (D : Int))] w fun e w' => ∃ (n : Nat) (ok : Bool), e = .returned (.tuple #[.int .i64 n, .bool ok]) ∧ Told t most D n ok ∧ Below w.heap.size w w' := by
  intro D
  induction D with
  | zero =>
    intro _ t v w most h hm1 hm2
    cases h using CR.elim with
    | mk k n s ts a cap ks ns ss us hk hn hs hl hc h0 hx hr =>
    unfold cellV
    clear hr hx
    rw [show (101 : Int) - ((0 : Nat) : Int) = 101 by omega]
    go_enter Tryd.func17, Tryd.ntmps17
    go_wp2
    go_ret2
    exact ⟨1, false, rfl, ⟨by omega, by omega, by intro e; cases e⟩, (Below.refl _ _).alloc (Nat.le_refl _) _⟩
  | succ D ih =>
    intro hD t v w most h hm1 hm2
    cases h using CR.elim with
    | mk k n s ts a cap ks ns ss us hk hn hs hl hc h0 hx hr =>
    unfold cellV
    rw [show (101 : Int) - ((D + 1 : Nat) : Int) = 100 - (D : Int) by omega]
    have hd1 : ¬ (100 : Int) - (D : Int) > 100 := by omega
    have HR : Hid (∀ i (h : i < ts.length), CR w ts[i] (cellV (ks i) (ns i) (ss i) (us i))) := hr
    have HX : Hid (∀ x i, a = some x → i < ts.length → x.spot = none ∧ Lies w x.block x.off i (ks i) (ns i) (ss i) (us i)) := hx
    have HI : Hid _ := ih
    have H0 : Hid (a = none → ts = []) := h0
    clear hr hx ih h0
    obtain ⟨N, hN⟩ : ∃ N, N = ts.length := ⟨_, rfl⟩
    have HN : Hid (N = ts.length) := hN
    rw [← hN] at hl ⊢
    clear hN
    go_enter Tryd.func17, Tryd.ntmps17
    go_wp2_with fail
    go_loopw [8, 9] (fun t8 t9 wr => ∃ (i m : Nat), i ≤ N ∧ t9 = .int .i64 i ∧ t8 = .int .i64 m ∧ m ≤ 2000000 ∧ Hid (m = 1 + cnts (ts.take i) ∧ deps (ts.take i) ≤ D ∧ (m = 1 ∨ (m : Int) ≤ most)) ∧ Hid (Below (w.heap.size + 1) (w.alloc (.cells #[.int .i64 k, .int .u64 n, .string s, .slice a N cap] 33)) wr)) (fun _ t9 _ => N - (intOf t9).toNat)
    case atStart => exact ⟨0, 1, Nat.zero_le _, rfl, rfl, by decide, by show _ ∧ _; simp [cnts_nil, deps_nil], Below.refl _ _⟩
    case round =>
      obtain ⟨i, m, hi, rfl, rfl, hm, HC, HB⟩ := hrel
      have hbox : wr.cell? ⟨w.heap.size, 3, none⟩ = some (.slice a N cap) := cell_kept HB.out (by simp) (by simp)
      by_cases c : i < N
      · have hts : i < ts.length := by rw [← HN.out]; exact c
        obtain ⟨x, hx⟩ : ∃ x, a = some x := by
          cases a with
          | some x => exact ⟨x, rfl⟩
          | none => rw [H0.out rfl] at hts; exact absurd hts (by simp)
        subst hx
        have hbw : Below w.heap.size w wr := ((Below.refl _ w).alloc (Nat.le_refl _) _).trans (HB.out.mono (by omega))
        obtain ⟨hsp, hli0⟩ := HX.out x i rfl hts
        obtain ⟨g, o, sp⟩ := x
        simp only at hsp
        subst hsp
        have hli := hli0.below hbw (Nat.le_refl _)
        clear hli0
        have hm3 : (m : Int) ≤ 1000000 := by have := HC.out; omega
        have hm4 : (D : Int) - 1000 ≤ most - (m : Int) := by have := HC.out; omega
        have hcall := HI.out (by omega) ts[i] _ wr (most - (m : Int)) ((HR.out i hts).kept hbw (Nat.le_refl _)) (by omega) (by omega)
        unfold cellV at hcall
        rw [show (101 : Int) - (D : Int) = 100 - (D : Int) + 1 by omega] at hcall
        obtain ⟨l0, l1, l2, l3⟩ := hli
        have HBW : Hid (Below w.heap.size w wr) := hbw
        clear hbw
        go_wp2_with fail
        refine hcall.mono ?_
        rintro e w2 ⟨m2, ok, rfl, hT, hb2⟩
        have hz := HB.out.size
        have HB2 : Hid (Below w.heap.size w w2) := Below.then HBW.out hb2
        have HB3 : Hid (Below (w.heap.size + 1) (w.alloc (.cells #[.int .i64 k, .int .u64 n, .string s, .slice (some ⟨g, o, none⟩) N cap] 33)) w2) := HB.out.trans (hb2.mono (by simpa using hz))
        obtain ⟨T1, T2, T3⟩ := hT
        have hm5 : (m2 : Int) ≤ 1000000 + 102 := by omega
        have HT : Hid (∀ t, Told t most (D + 1) (m + m2) false) := fun t => ⟨by omega, by have := HC.out; omega, by intro e; cases e⟩
        clear hb2 hcall l0 l1 l2 l3 hz T2
        cases ok with
        | false =>
          clear T3
          go_wp2
          go_ret2
          exact ⟨m + m2, false, by simp, HT.out _, HB2.out⟩
        | true =>
          have T4 := T3 rfl
          clear T3
          by_cases c2 : (m : Int) + (m2 : Int) > most
          · clear T4
            go_wp2
            go_ret2
            exact ⟨m + m2, false, by simp, HT.out _, HB2.out⟩
          · have HK : Hid (m + m2 = 1 + cnts (ts.take (i + 1)) ∧ deps (ts.take (i + 1)) ≤ D ∧ (m + m2 = 1 ∨ ((m + m2 : Nat) : Int) ≤ most)) := by
              have := HC.out
              refine ⟨?_, ?_, Or.inr (by omega)⟩
              · rw [cnts_take ts i hts]; omega
              · rw [deps_take ts i hts]; omega
            clear T4
            go_wp2
            go_roundw
            case rel => exact ⟨i + 1, m + m2, by omega, by go_num, by go_num, by omega, HK, HB3⟩
            case measure => simp [intOf]; omega
      · have e : i = N := by omega
        subst e
        go_wp2
        go_ret2
        have q := HC.out
        have hd : deps (ts.take i) ≤ D := q.2.1
        rw [HN.out, List.take_length] at q
        refine ⟨m, true, rfl, ⟨by omega, by omega, fun _ => ⟨by rw [Tr.cnt_mk]; exact q.1, by rw [Tr.dep_mk]; have := q.2.1; omega, q.2.2⟩⟩, ((Below.refl _ w).alloc (Nat.le_refl _) _).trans (HB.out.mono (by omega))⟩

end Go.Proofs.YtcblknghkgihcaaDoor
