/-
  The law's turn, walked.
-/
import Derived.Test.YtmjiaephmgngiaaDoorFrTold
import Derived.Laws.OwnMore
import Derived.Laws.BytesArg
namespace Go.Proofs.YtmjiaephmgngiaaDoor
open Go.RowKit Crc

theorem OW.slice {w : World} {B : Nat} {v : Value} {l : List Nat} (h : OW w B v l) (h0 : 0 < l.length) : ∃ g cap, v = .slice (some ⟨g, 0, none⟩) l.length cap ∧ B ≤ g ∧ l.length ≤ cap ∧ cap ≤ maxLen := by
  rcases h.2.2 with ⟨_, e⟩ | ⟨g, cap, cur, rfl, hb, _, r1, r2, _⟩
  · omega
  · exact ⟨g, cap, rfl, hb, r1, r2⟩
theorem add_off (g j : Nat) : (⟨g, 0, none⟩ : Addr).add j = ⟨g, j, none⟩ := by unfold Addr.add; split <;> simp_all
theorem c8_set (l : List Nat) (j d : Nat) : c8 (l.set j d) = (c8 l).set j (.int .u8 (d : Nat)) := by unfold c8; rw [List.map_set]
theorem OW.stored {w : World} {B g cap : Nat} {l : List Nat} (h : OW w B (.slice (some ⟨g, 0, none⟩) l.length cap) l) (j d : Nat) (hd : d < 256) :
    OW (w.setCell ⟨g, j, none⟩ (.int .u8 (d : Nat))) B (.slice (some ⟨g, 0, none⟩) l.length cap) (l.set j d) := by
  refine ⟨?_, ?_⟩
  · intro x hx
    rcases List.mem_or_eq_of_mem_set hx with e | e
    · exact h.1 x e
    · rw [e]; exact hd
  · rw [List.length_set, c8_set]
    exact (h.2.stored j (.int .u8 (d : Nat))).1
theorem xor_b' (a b : Nat) (ha : a < 256) (hb : b < 256) : bits .xor .u8 (a : Int) (b : Int) = ((a ^^^ b : Nat) : Int) := u8_xor_nat a b ha hb

set_option maxHeartbeats 1000000 in
theorem turn_any (v : Value) (l : List Nat) (k B : Nat) (w : World) (h : OW w B v l) (hl : 8 ≤ l.length) (hl2 : l.length ≤ 1000) (hk : k ≤ 1048576) :
    Calls Tryd.prog 18 #[v, .int .i64 k] w fun e w' => e = .returned (.tuple #[]) ∧ OW w' B v (flp l (k % (8 * (l.length - 4)))) ∧ Below B w w' := by
  obtain ⟨g, cap, rfl, hg, hc, hm⟩ := h.slice (by omega)
  obtain ⟨m, hm2⟩ : ∃ m, m = k % (8 * (l.length - 4)) := ⟨_, rfl⟩
  have hmi : (k : Int) % (8 * ((l.length - 4 : Nat) : Int)) = (m : Int) := by rw [hm2]; simp
  have hml : m < 8 * (l.length - 4) := by rw [hm2]; exact Nat.mod_lt _ (by omega)
  have hj : 4 + m / 8 < l.length := by omega
  obtain ⟨q, eq⟩ : ∃ q, q = m / 8 := ⟨_, rfl⟩
  have hqi : (m : Int) / 8 = (q : Int) := by omega
  obtain ⟨j, ej⟩ : ∃ j, j = 4 + q := ⟨_, rfl⟩
  have hji : 4 + (q : Int) = (j : Int) := by omega
  obtain ⟨x, e, hcell, hd⟩ := h.br.cell (i := j) (by omega)
  obtain rfl := Option.some.inj e
  rw [add_off] at hcell
  have hfr := h.2.frozenAt j
  obtain ⟨r, hr⟩ : ∃ r, r = m % 8 := ⟨_, rfl⟩
  have hri : (m : Int) % 8 = (r : Int) := by omega
  have hr8 : r < 8 := by omega
  have hpl : 2 ^ r < 256 := Nat.pow_lt_pow_right (a := 2) (n := 8) (by omega) hr8
  have hpi : (1 : Int) * 2 ^ r = ((2 ^ r : Nat) : Int) := by rw [Int.one_mul, Int.natCast_pow]; rfl
  have HF : Hid (flp l m = l.set j (l.getD j 0 ^^^ 2 ^ r)) := by show _ = _; unfold flp; rw [ej, eq, hr]
  have hst := h.stored j (l.getD j 0 ^^^ 2 ^ r) (Nat.xor_lt_two_pow (n := 8) hd hpl)
  have hx := xor_b' (l.getD j 0) (2 ^ r) hd hpl
  generalize l.getD j 0 = d at *
  obtain ⟨p, hp⟩ : ∃ p, p = 2 ^ r := ⟨_, rfl⟩
  rw [← hp] at hst hx hpl HF hpi
  generalize d ^^^ p = y at *
  have HQ : Hid (OW (w.setCell ⟨g, j, none⟩ (.int .u8 (y : Int))) B (.slice (some ⟨g, 0, none⟩) l.length cap) (flp l m) ∧ Below B w (w.setCell ⟨g, j, none⟩ (.int .u8 (y : Int)))) := by
    refine ⟨?_, (Below.refl _ _).setCell hg _⟩
    rw [HF.out]; exact hst
  obtain ⟨n, hn⟩ : ∃ n, n = l.length := ⟨_, rfl⟩
  rw [← hm2]
  rw [← hn] at HQ hl hl2 hj hc hmi hml ⊢
  unfold maxLen at hm
  rw [show ((n - 4 : Nat) : Int) = (n : Int) - 4 by omega] at hmi
  have k1 : (j : Int) < (n : Int) := by omega
  have k2 : (0 : Int) ≤ (j : Int) := by omega
  clear h HF hst hn hp hr eq hm2 ej
  go_enter Tryd.func18, Tryd.ntmps18
  go_wp2
  go_end0
  exact ⟨rfl, HQ.out⟩

/-- Bytes as a string. -/
def bsN (l : List Nat) : ByteArray := strOfNums (l.map Int.ofNat)
theorem bsN_size (l : List Nat) : (bsN l).size = l.length := by unfold bsN; rw [strOfNums_size, List.length_map]
theorem bsN_inj {l m : List Nat} (hl : Sm8 l) (hm : Sm8 m) (h : bsN l = bsN m) : l = m := by
  have h2 : (bsN l).data.toList = (bsN m).data.toList := by rw [h]
  unfold bsN at h2
  rw [strOfNums_data, strOfNums_data, List.map_map, List.map_map] at h2
  have e : ∀ k : List Nat, Sm8 k → (k.map ((fun n : Int => UInt8.ofNat n.toNat) ∘ Int.ofNat)).map UInt8.toNat = k := by
    intro k hk
    rw [List.map_map]
    conv => rhs; rw [← List.map_id k]
    apply List.map_congr_left
    intro d hd
    have := hk d hd
    simp [Function.comp]
    omega
  rw [← e l hl, h2, e m hm]
theorem bsN_eq {l m : List Nat} (hl : Sm8 l) (hm : Sm8 m) : ((bsN l).toList == (bsN m).toList) = decide (l = m) := by
  by_cases c : l = m
  · subst c; simp
  · rw [decide_eq_false c, beq_eq_false_iff_ne]
    intro e
    rw [ByteArray.toList_eq, ByteArray.toList_eq] at e
    exact c (bsN_inj hl hm (Go.WideShapes.bytes_inj e))
theorem conv_any {w : World} {v : Value} {l : List Nat} (h : BR w v l) : (convert 22 9 v).run Tryd.prog w = .ok (.string (bsN l)) w := by
  obtain ⟨s1, a, cap, rfl, h3, h4, h5⟩ := id h
  by_cases c : l.length = 0
  · have e : l = [] := List.eq_nil_of_length_eq_zero c
    subst e
    rcases h5 with ⟨rfl, rfl⟩ | ⟨x, rfl, _⟩
    · exact run_convert_bytes_nil w _ _ Tryd.underlying22 Tryd.underlying5 _ _ _ Tryd.underlying9
    · have := run_loadCells_list (P := Tryd.prog) w x [] (fun j u hj => by simp at hj)
      rw [run_convert_bytes_string w _ _ _ _ _ _ Tryd.underlying22 Tryd.underlying5 Tryd.underlying9, run_bytesToString w x _ cap [] (by simpa using this)]
      rfl
  · obtain ⟨b, o, rfl, _, hc⟩ := h.lies (by omega)
    refine run_convert_bytes_arg w _ _ Tryd.underlying22 Tryd.underlying5 b o l.length cap (l.map Int.ofNat) (by rw [List.length_map]) ?_ _ Tryd.underlying9
    intro i hi
    rw [hc i hi]
    congr 2
    rw [List.getD_eq_getElem?_getD, List.getD_eq_getElem?_getD, List.getElem?_map, List.getElem?_eq_getElem hi]
    rfl
end Go.Proofs.YtmjiaephmgngiaaDoor
