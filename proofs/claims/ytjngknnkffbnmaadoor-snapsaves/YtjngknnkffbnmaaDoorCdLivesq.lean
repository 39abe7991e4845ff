/-
  Layer 7: the law's lives, walked.
-/
import Derived.Test.YtjngknnkffbnmaaDoorCdListq
import Derived.Test.YtjngknnkffbnmaaDoorCdEncodeq
import Derived.Test.YtjngknnkffbnmaaDoorCdDecodeq
namespace Go.Proofs.YtjngknnkffbnmaaDoor
set_option maxRecDepth 100000
open Go.RowKit Crc

def liveT : Tr := .mk 2 0 ⟨#[]⟩ [.mk 0 5 ⟨#[]⟩ [], .mk 1 0 ⟨#[97]⟩ []]
def liveB : List Nat := [2, 0, 0, 0, 2, 0, 0, 0, 0, 0, 0, 0, 0, 5, 1, 0, 0, 0, 1, 97]

theorem live_cp : Tr.mk 2 0 ⟨#[]⟩ ([Tr.mk 0 5 ⟨#[]⟩ [], .mk 1 0 ⟨#[97]⟩ []].map cpT) = liveT := by simp [cpT_mk, liveT]
theorem live_enc : encT liveT 64 [] = .inr liveB := by
  have e : (⟨#[97]⟩ : ByteArray).size = 1 := rfl
  simp [encT_mk, encL_cons, encL_nil, liveT, be, tx, liveB, e]
theorem live_dec : decD liveB = .inr liveT := by
  unfold decD liveB
  rw [if_neg (by decide)]
  have e : bsN [97] = ⟨#[97]⟩ := by rfl
  simp [decT, decL, nb, liveT, e]

theorem CS.named {w : World} {S : Nat → Prop} {k : Int} {n : Nat} {s : ByteArray} {ts : List Tr} {k' : Int} {n' : Nat} {s' : ByteArray} {u : Value} (h : CS w S (.mk k n s ts) (cellV k' n' s' u)) : k' = k ∧ n' = n ∧ s' = s ∧ ∃ a cap, u = .slice a ts.length cap := by
  generalize hv : cellV k' n' s' u = v at h
  cases h using CS.elim with
  | mk _ _ _ _ a cap ks ns ss us hk hn hs hl hc h0 hS hx hr =>
    unfold cellV at hv
    simp at hv
    obtain ⟨rfl, e, rfl, rfl⟩ := hv
    exact ⟨rfl, by omega, rfl, a, cap, rfl⟩

/-- What is read of a list of cells. -/
theorem CS.list {w : World} {S : Nat → Prop} {k : Int} {n : Nat} {s : ByteArray} {ts : List Tr} {v : Value} (h : CS w S (.mk k n s ts) v) (h0 : ts ≠ []) : ∃ (g o cap : Nat) (ks : Nat → Int) (ns : Nat → Nat) (ss : Nat → ByteArray) (us : Nat → Value), v = cellV k n s (.slice (some ⟨g, o, none⟩) ts.length cap) ∧ ts.length ≤ cap ∧ cap ≤ 9223372036854775807 ∧ S g ∧
    (∀ i, i < ts.length → Lies w g o i (ks i) (ns i) (ss i) (us i)) ∧ ∀ i (h : i < ts.length), CS w S ts[i] (cellV (ks i) (ns i) (ss i) (us i)) := by
  cases h using CS.elim with
  | mk _ _ _ _ a cap ks ns ss us hk hn hs hl hc hn0 hS hx hr =>
    cases a with
    | none => exact absurd (hn0 rfl) h0
    | some x =>
      have hp : 0 < ts.length := List.length_pos_iff.mpr h0
      have hsp := (hx x 0 rfl hp).1
      obtain ⟨g, o, sp⟩ := x
      simp only at hsp
      subst hsp
      exact ⟨g, o, cap, ks, ns, ss, us, rfl, hl, hc, hS _ rfl h0, fun i hi => (hx _ i rfl hi).2, hr⟩

theorem live_row (w : World) : CR (w.alloc (.cells #[.int .i64 0, .int .u64 5, .string ⟨#[]⟩, .slice none 0 0, .int .i64 1, .int .u64 0, .string ⟨#[97]⟩, .slice none 0 0] 26)) (.mk 2 0 ⟨#[]⟩ [.mk 0 5 ⟨#[]⟩ [], .mk 1 0 ⟨#[97]⟩ []]) (cellV 2 0 ⟨#[]⟩ (.slice (some ⟨w.heap.size, 0, none⟩) [Tr.mk 0 5 ⟨#[]⟩ [], .mk 1 0 ⟨#[97]⟩ []].length 2)) := by
  refine CR.mk 2 0 ⟨#[]⟩ _ _ 2 (fun i => if i = 0 then 0 else 1) (fun i => if i = 0 then 5 else 0) (fun i => if i = 0 then ⟨#[]⟩ else ⟨#[97]⟩) (fun _ => .slice none 0 0) (by decide) (by decide) (by decide) (by decide) (by decide) (fun e => by cases e) ?_ ?_
  · intro x i e hi
    cases e
    refine ⟨rfl, ?_⟩
    match i, hi with
    | 0, _ => exact ⟨by rw [World.cell?_alloc_new]; rfl, by rw [World.cell?_alloc_new]; rfl, by rw [World.cell?_alloc_new]; rfl, by rw [World.cell?_alloc_new]; rfl⟩
    | 1, _ => exact ⟨by rw [World.cell?_alloc_new]; rfl, by rw [World.cell?_alloc_new]; rfl, by rw [World.cell?_alloc_new]; rfl, by rw [World.cell?_alloc_new]; rfl⟩
  · intro i hi
    match i, hi with
    | 0, _ => exact (CS_flat _ (fun _ => True) 0 5 ⟨#[]⟩ (by decide) (by decide) (by decide)).cr
    | 1, _ => exact (CS_flat _ (fun _ => True) 1 0 ⟨#[97]⟩ (by decide) (by decide) (by decide)).cr

end Go.Proofs.YtjngknnkffbnmaaDoor
