/-
  Layer 7: the law's lives, walked.
-/
import Derived.Test.YtbkjghhghefejaaCdList
import Derived.Test.YtbkjghhghefejaaCdEncode
import Derived.Test.YtbkjghhghefejaaCdDecode
namespace Go.Proofs.Ytbkjghhghefejaa
open Go.RowKit Crc

def liveT : Tr := .mk 2 0 ⟨#[]⟩ [.mk 0 5 ⟨#[]⟩ [], .mk 1 0 ⟨#[97]⟩ []]
def liveB : List Nat := [2, 0, 0, 0, 2, 0, 0, 0, 0, 0, 0, 0, 0, 5, 1, 0, 0, 0, 1, 97]

theorem live_cp : Tr.mk 2 0 ⟨#[]⟩ ([Tr.mk 0 5 ⟨#[]⟩ [], .mk 1 0 ⟨#[97]⟩ []].map cpT) = liveT := by simp [cpT_mk, liveT]
theorem live_enc : encT liveT 64 [] = .inr liveB := by
  have e : (⟨#[97]⟩ : ByteArray).size = 1 := rfl
  simp [encT_mk, encL_cons, encL_nil, liveT, be, tx, liveB, e]
theorem live_dec : decD liveB = .inr liveT := by
  unfold decD liveB
  rw [if_neg (by decide)]
  have e : bsN [97] = ⟨#[97]⟩ := by rfl
  simp [decT, decL, nb, liveT, e]

theorem CS.named {w : World} {S : Nat → Prop} {k : Int} {n : Nat} {s : ByteArray} {ts : List Tr} {k' : Int} {n' : Nat} {s' : ByteArray} {u : Value} (h : CS w S (.mk k n s ts) (cellV k' n' s' u)) : k' = k ∧ n' = n ∧ s' = s ∧ ∃ a cap, u = .slice a ts.length cap := by
  generalize hv : cellV k' n' s' u = v at h
  cases h using CS.elim with
  | mk _ _ _ _ a cap ks ns ss us hk hn hs hl hc h0 hS hx hr =>
    unfold cellV at hv
    simp at hv
    obtain ⟨rfl, e, rfl, rfl⟩ := hv
    exact ⟨rfl, by omega, rfl, a, cap, rfl⟩

/-- What is read of a list of cells. -/
theorem CS.list {w : World} {S : Nat → Prop} {k : Int} {n : Nat} {s : ByteArray} {ts : List Tr} {v : Value} (h : CS w S (.mk k n s ts) v) (h0 : ts ≠ []) : ∃ (g o cap : Nat) (ks : Nat → Int) (ns : Nat → Nat) (ss : Nat → ByteArray) (us : Nat → Value), v = cellV k n s (.slice (some ⟨g, o, none⟩) ts.length cap) ∧ ts.length ≤ cap ∧ cap ≤ 9223372036854775807 ∧ S g ∧
    (∀ i, i < ts.length → Lies w g o i (ks i) (ns i) (ss i) (us i)) ∧ ∀ i (h : i < ts.length), CS w S ts[i] (cellV (ks i) (ns i) (ss i) (us i)) := by
  cases h using CS.elim with
  | mk _ _ _ _ a cap ks ns ss us hk hn hs hl hc hn0 hS hx hr =>
    cases a with
    | none => exact absurd (hn0 rfl) h0
    | some x =>
      have hp : 0 < ts.length := List.length_pos_iff.mpr h0
      have hsp := (hx x 0 rfl hp).1
      obtain ⟨g, o, sp⟩ := x
      simp only at hsp
      subst hsp
      exact ⟨g, o, cap, ks, ns, ss, us, rfl, hl, hc, hS _ rfl h0, fun i hi => (hx _ i rfl hi).2, hr⟩

theorem live_row (w : World) : CR (w.alloc (.cells #[.int .i64 0, .int .u64 5, .string ⟨#[]⟩, .slice none 0 0, .int .i64 1, .int .u64 0, .string ⟨#[97]⟩, .slice none 0 0] 25)) (.mk 2 0 ⟨#[]⟩ [.mk 0 5 ⟨#[]⟩ [], .mk 1 0 ⟨#[97]⟩ []]) (cellV 2 0 ⟨#[]⟩ (.slice (some ⟨w.heap.size, 0, none⟩) [Tr.mk 0 5 ⟨#[]⟩ [], .mk 1 0 ⟨#[97]⟩ []].length 2)) := by
  refine CR.mk 2 0 ⟨#[]⟩ _ _ 2 (fun i => if i = 0 then 0 else 1) (fun i => if i = 0 then 5 else 0) (fun i => if i = 0 then ⟨#[]⟩ else ⟨#[97]⟩) (fun _ => .slice none 0 0) (by decide) (by decide) (by decide) (by decide) (by decide) (fun e => by cases e) ?_ ?_
  · intro x i e hi
    cases e
    refine ⟨rfl, ?_⟩
    match i, hi with
    | 0, _ => exact ⟨by rw [World.cell?_alloc_new]; rfl, by rw [World.cell?_alloc_new]; rfl, by rw [World.cell?_alloc_new]; rfl, by rw [World.cell?_alloc_new]; rfl⟩
    | 1, _ => exact ⟨by rw [World.cell?_alloc_new]; rfl, by rw [World.cell?_alloc_new]; rfl, by rw [World.cell?_alloc_new]; rfl, by rw [World.cell?_alloc_new]; rfl⟩
  · intro i hi
    match i, hi with
    | 0, _ => exact (CS_flat _ (fun _ => True) 0 5 ⟨#[]⟩ (by decide) (by decide) (by decide)).cr
    | 1, _ => exact (CS_flat _ (fun _ => True) 1 0 ⟨#[97]⟩ (by decide) (by decide) (by decide)).cr

set_option maxHeartbeats 2000000 in
theorem lives_any (w : World) : Calls Try.prog 9 #[] w fun e w' => e = .returned (.bool true) ∧ Below w.heap.size w w' := by
  have hnum := cnumber_any 5 w
  go_enter Try.func9, Try.ntmps9
  go_wp2_with fail
  refine hnum.mono ?_
  rintro e w1 ⟨rfl, hb1⟩
  clear hnum
  have htxt := ctext_any ⟨#[97]⟩ w1
  go_wp2_with fail
  refine htxt.mono ?_
  rintro e w2 ⟨rfl, hb2⟩
  clear htxt
  have HB2 : Hid (Below w.heap.size w w2) := Below.then hb1 hb2
  clear hb1 hb2
  unfold cellV
  have hlist := list_any [.mk 0 5 ⟨#[]⟩ [], .mk 1 0 ⟨#[97]⟩ []] (some ⟨w2.heap.size, 0, none⟩) 2 2 0 ⟨#[]⟩ _ (by simp [cnts_cons, cnts_nil, Tr.cnt_mk]) (live_row w2)
  rw [live_cp] at hlist
  go_wp2_with fail
  refine hlist.mono ?_
  rintro e w3 ⟨v3, rfl, q1, q2⟩
  clear hlist
  have HB3 : Hid (Below w.heap.size w w3) := (HB2.out.alloc HB2.out.size _).trans (q2.mono (by have := HB2.out.size; simp; omega))
  have henc := encode_any liveT v3 w3 q1.cr (.inr liveB) live_enc.symm
  obtain ⟨k3, n3, s3, a3, m3, cap3, rfl⟩ := q1.form
  unfold cellV at henc ⊢
  clear q1 q2
  go_wp2_with fail
  refine henc.mono ?_
  rintro e w4 ⟨v4, x4, rfl, hb4, ho4, rfl⟩
  have HB4 : Hid (Below w.heap.size w w4) := Below.then HB3.out hb4
  have hdec := decode_any _ v4 liveB w4 ho4 (.inr liveT) live_dec.symm
  obtain ⟨a4, cap4, rfl⟩ := ownsRow_slice ho4.2
  clear henc hb4 ho4
  rw [show liveB.length = 20 from rfl] at hdec ⊢
  go_wp2_with fail
  refine hdec.mono ?_
  rintro e w5 ⟨v5, x5, rfl, hb5, q5, rfl⟩
  have HB5 : Hid (Below w.heap.size w w5) := Below.then HB4.out hb5
  clear hdec hb5
  obtain ⟨g, o, cap, ks, ns, ss, us, rfl, hl, hc, hg, hli, hcs⟩ := q5.list (by simp)
  have h1 := hli 1 (by simp)
  obtain ⟨_, _, e1, _⟩ := (hcs 1 (by simp)).named
  obtain ⟨_, _, l2, _⟩ := h1
  rw [e1, show o + 1 * 4 + 2 = o + 4 + 2 from rfl] at l2
  have l3 : ∀ ob : Obj, (w5.alloc ob).cell? ⟨g, o + 4 + 2, none⟩ = some (.string ⟨#[97]⟩) := fun ob => cell_kept ((Below.refl _ w5).alloc (Nat.le_refl _) ob) (Nat.le_refl _) l2
  unfold cellV
  clear q5 hli hcs l2 hg
  go_wp2
  go_ret
  exact ⟨rfl, HB5.out.alloc HB5.out.size _⟩

end Go.Proofs.Ytbkjghhghefejaa
