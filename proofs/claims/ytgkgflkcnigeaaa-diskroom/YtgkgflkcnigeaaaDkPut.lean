/-
  Layer 20: the landed disk: why bytes can't be laid; a file is given a name.
-/
import Derived.Test.YtgkgflkcnigeaaaDkLand1
import Derived.WalkSpells
namespace Go.Proofs.Ytgkgflkcnigeaaa
set_option maxRecDepth 100000
open Go.RowKit Txt Go.Maps Dk

namespace Dk
def refuseC (s : List UInt8) (n sz u : Nat) : Int := if nmB s = false then 1 else if (n : Int) > sz - u then 200 else 0
end Dk

set_option maxHeartbeats 1000000 in
theorem refusal_any (X : Nat → Prop) (db mb sz u : Nat) (pw lf : Int) (F : List Fl) (s : List UInt8) (a : Option Addr) (n cap : Nat) (w : World) (h : Dv w X db mb sz u pw lf F) (h1 : u ≤ sz) (h2 : sz ≤ 67108864) (hs : s.length ≤ 9223372036854775807) :
    Calls Try.prog 32 #[.pointer (some ⟨db, 0, none⟩), .string (bs s), .slice a n cap] w fun e w' => e = .returned (.int .i64 (refuseC s n sz u)) ∧ ∃ k, w' = w.drewN k := by
  have hN := isName_any s w hs
  have HR : Hid (∀ w', w' = w → Calls Try.prog 35 #[.pointer (some ⟨db, 0, none⟩)] w' fun e w' => e = .returned (.int .i64 (sz - u)) ∧ ∃ n, w' = w.drewN n) := fun w' e => by rw [e]; exact room_any X db mb sz u pw lf F w h h1 h2
  have HC : Hid (refuseC s n sz u = if nmB s = false then 1 else if (n : Int) > sz - u then 200 else 0) := rfl
  generalize refuseC s n sz u = R at *
  generalize bs s = S at *
  clear h
  cases hb : nmB s with
  | false =>
    rw [hb] at hN
    have hr : R = 1 := by rw [HC.out, if_pos hb]
    subst hr
    clear HC hb HR
    go_enter Try.func32, Try.ntmps32
    go_wp2_with fail
    refine hN.mono ?_
    rintro e w' ⟨rfl, rfl⟩
    go_wp2
    go_ret
    exact ⟨rfl, 0, rfl⟩
  | true =>
    rw [hb] at hN
    by_cases c : (n : Int) > sz - u
    · have hr : R = 200 := by rw [HC.out, if_neg (by rw [hb]; decide), if_pos c]
      subst hr
      clear HC hb
      go_enter Try.func32, Try.ntmps32
      go_wp2_with fail
      refine hN.mono ?_
      rintro e w' ⟨rfl, rfl⟩
      go_wp2_with fail
      refine (HR.out _ rfl).mono ?_
      rintro e w'' ⟨rfl, k, rfl⟩
      go_wp2
      go_ret
      exact ⟨rfl, k, rfl⟩
    · have hr : R = 0 := by rw [HC.out, if_neg (by rw [hb]; decide), if_neg c]
      subst hr
      clear HC hb
      go_enter Try.func32, Try.ntmps32
      go_wp2_with fail
      refine hN.mono ?_
      rintro e w' ⟨rfl, rfl⟩
      go_wp2_with fail
      refine (HR.out _ rfl).mono ?_
      rintro e w'' ⟨rfl, k, rfl⟩
      go_wp2
      go_ret
      exact ⟨rfl, k, rfl⟩

set_option maxHeartbeats 1000000 in
theorem sclone_any (s : ByteArray) (w : World) (h : s.size ≤ 140737488351232) : Calls Try.prog 47 #[.string s] w fun e w' => e = .returned (.string s) ∧ Below w.heap.size w w' := by
  have hc := Try.stringslite_Clone s w (by omega)
  go_enter Try.func47, Try.ntmps47
  go_wp2_with fail
  refine hc.mono ?_
  rintro e w' ⟨rfl, hb⟩
  go_wp2
  go_ret
  exact ⟨rfl, hb⟩

set_option maxHeartbeats 1000000 in
theorem put_any (X Y : Nat → Prop) (db mb sz u : Nat) (pw lf : Int) (F : List Fl) (f : Fl) (w : World) (h : Dv w X db mb sz u pw lf F) (hno : ∀ g ∈ F, g.nm ≠ f.nm) (hb : w.heap[f.b]? = some (.cells #[f.v, .int .i64 f.fa] 67 (0, 0))) (hr : FB w f.v f.l) (hfa : f.fa ≤ f.l.length) (hn : f.nm.length ≤ 32)
    (hx : ∀ g ∈ F, f.b ≠ g.b ∧ ∀ i, f.v.ownBlock = some i → g.v.ownBlock ≠ some i) (hl : F.length ≤ 1000000000) (hY : ∀ k, X k → Y k) (hYb : Y f.b) (hYv : ∀ g, f.v.ownBlock = some g → Y g) (hYl : ∀ k, Y k → k < w.heap.size) :
    Calls Try.prog 38 #[.pointer (some ⟨db, 0, none⟩), .string (bs f.nm), .pointer (some ⟨f.b, 0, none⟩)] w fun e w' => e = .returned (.tuple #[]) ∧ Dv w' Y db mb sz u pw lf (insF f F) ∧ Wx (fun i => i = mb) w w' := by
  have mixed : Try.prog.follows Departure.mixedOrders = true := by kernel_rfl
  obtain ⟨⟨c0, c1, c2, c3, c4⟩, fz⟩ := h.cells
  have hmn : ∀ w : World, (binOp .eql 56 (.map (some mb)) (.map none)).run Try.prog w = .ok (.bool false) w := fun w => run_eql_map_nil w _ _ _ (some mb) Try.underlying56
  have HC : Hid (∀ w', Calls Try.prog 47 #[.string (bs f.nm)] w' fun e w'' => e = .returned (.string (bs f.nm)) ∧ Below w'.heap.size w' w'') := fun w' => sclone_any _ w' (by rw [bs_size]; omega)
  have HP : Hid (ptrR (.pointer (some ⟨f.b, 0, none⟩)) = some (.lit (.int .i64 f.b), [])) := ptrR_some _
  have HKy : Hid (keyOf Try.prog 9 (.string (bs f.nm)) = some (.string f.nm)) := key_of (by omega)
  have HD : Hid (∀ wq, Below w.heap.size w wq → wq.cell? ⟨db, 2, none⟩ = some (.map (some mb))) := fun wq hq => by rw [← c2]; exact World.cell?_of_block (hq.block db (lt_some h.blk))
  have HD2 : Hid (∀ wB wC, Below w.heap.size w wB → wB.mapTurned wC mb → wC.cell? ⟨db, 2, none⟩ = some (.map (some mb))) := fun wB wC hB ht => by
    have hk : Wx (fun i => i = mb) wB wC := Wx.grown ht.grown fun k e => by simpa using e.symm
    exact hk.cell (fun e => h.fs.apart h.blk mb (Or.inl rfl) e.symm) (HD.out _ hB)
  have HM : Hid (∀ wq, Below w.heap.size w wq → wq.ownsMap Try.prog 9 ptrR mb F.length (DF F)) := fun wq hq => own_stay h.fs.map (hq.block mb h.fs.map.lt)
  have HL : Hid (F.length < maxLen) := by show _ < _; unfold maxLen; omega
  have HE : Hid (∀ wB wC n, Below w.heap.size w wB → wC.ownsMap Try.prog 9 ptrR mb n ((DF F).put (.string f.nm) (.lit (.int .i64 f.b))) → wB.mapTurned wC mb → Dv wC Y db mb sz u pw lf (insF f F) ∧ Wx (fun i => i = mb) w wC) := fun wB wC n hB hC ht => by
    have hk : Wx (fun i => i = mb) wB wC := Wx.grown ht.grown fun k e => by simpa using e.symm
    have hk0 : Wx (fun i => i = mb) w wC := (Wx.of_below _ hB).trans hk fun i hi => Or.inl hi
    have hfB : Fs wB mb F := h.fs.wx (Wx.of_below (fun _ => False) hB) fun _ _ hf => hf
    have hbB := (hB.block f.b (lt_some hb)).trans hb
    have hrB : FB wB f.v f.l := hr.stay fun g e => by obtain ⟨cur, hc⟩ := hr.lt e; exact hB.block g (lt_some hc)
    have hfC := hfB.ins f hno hC hk hbB hrB hfa hn hx
    refine ⟨⟨?_, hfC, hY _ h.xd, fun k hk => ?_, fun k hk => Nat.lt_of_lt_of_le (hYl k hk) hk0.size⟩, hk0⟩
    · exact hk0.blk (fun e => h.fs.apart h.blk mb (Or.inl rfl) e.symm) h.blk
    · rcases hk with rfl | ⟨g, hg, hk⟩
      · exact hY _ (h.xs _ (Or.inl rfl))
      · rcases mem_insF.1 hg with rfl | hg
        · rcases hk with rfl | e
          · exact hYb
          · exact hYv _ e
        · exact hY _ (h.xs _ (Or.inr ⟨g, hg, hk⟩))
  clear h hno hb hr hfa hn hx hl hY hYb hYv hYl
  generalize bs f.nm = NM at *
  generalize f.nm = nm at *
  generalize f.b = fb at *
  have hbA : Below w.heap.size w w.drew := (Below.refl _ _).drew
  go_enter Try.func38, Try.ntmps38
  go_wp2_with fail
  go_region_held3 (fun wq => wq.cell? ⟨db, 2, none⟩ = some (.map (some mb)))
    (first | exact HD2.out _ _ hbC hD2 | exact HD.out _ hbC | exact HD.out _ hbA)
    (first
      | (go_at_call 47; refine (HC.out _).mono ?_; rintro e wC ⟨rfl, hbC⟩; replace hbC : Below w.heap.size w wC := hbA.trans (hbC.mono hbA.size); obtain ⟨wD, hrun, hD1, hD2⟩ := (HM.out _ hbC).store keyed Try.underlying56 HL.out HKy.out HP.out))
  go_wp2
  go_end0
  exact ⟨rfl, HE.out _ _ _ hbC hD1 hD2⟩

end Go.Proofs.Ytgkgflkcnigeaaa
