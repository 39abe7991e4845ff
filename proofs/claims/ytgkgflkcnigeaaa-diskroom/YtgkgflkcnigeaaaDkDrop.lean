/-
  Layer 20: the landed disk: a file goes; what is told of files.
-/
import Derived.Test.YtgkgflkcnigeaaaDkLay
namespace Go.Proofs.Ytgkgflkcnigeaaa
set_option maxRecDepth 100000
open Go.RowKit Txt Go.Maps Dk

namespace Dk
def lenAt (F : List Fl) (s : List UInt8) : Nat := match lookF F s with | some f => f.l.length | none => 0
theorem Dv.del {w w' : World} {X : Nat → Prop} {db mb sz u : Nat} {pw lf : Int} {F : List Fl} (h : Dv w X db mb sz u pw lf F) (s : List UInt8) {n : Nat} (hm : w'.ownsMap Try.prog 9 ptrR mb n ((DF F).del (.string s))) (ht : w.mapTurned w' mb) :
    Dv w' X db mb sz u pw lf (dropF F s) ∧ Wx (fun i => i = mb) w w' := by
  have hk' : Wx (fun i => i = mb) w w' := Wx.grown ht.grown fun k e => by simpa using e.symm
  refine ⟨⟨hk'.blk (fun e => h.fs.apart h.blk mb (Or.inl rfl) e.symm) h.blk, h.fs.del s hm hk', h.xd, fun k hk => h.xs k ?_, fun k hk => Nat.lt_of_lt_of_le (h.xlt k hk) hk'.size⟩, hk'⟩
  rcases hk with rfl | ⟨f, hf, hk⟩
  · exact Or.inl rfl
  · exact Or.inr ⟨f, (mem_dropF.1 hf).1, hk⟩
theorem Dv.used {w : World} {X : Nat → Prop} {db mb sz u : Nat} {pw lf : Int} {F : List Fl} (h : Dv w X db mb sz u pw lf F) (u' : Nat) : Dv (w.drew.setCell ⟨db, 1, none⟩ (.int .i64 (u' : Int))) X db mb sz u' pw lf F ∧ Wx (fun i => i = db) w (w.drew.setCell ⟨db, 1, none⟩ (.int .i64 (u' : Int))) := by
  have k : Wx (fun i => i = db) w (w.drew.setCell ⟨db, 1, none⟩ (.int .i64 (u' : Int))) := (Wx.drew _ w).trans (Wx.set (X := fun i => i = db) _ 1 _ (k := db) rfl) fun i hi => Or.inl hi
  exact ⟨h.set k (heap_setCell_same _ db 1 _ _ _ h.blk), k⟩
end Dk

set_option maxHeartbeats 2000000 in
theorem drop_any (X : Nat → Prop) (db mb sz u : Nat) (pw lf : Int) (F : List Fl) (s : List UInt8) (w : World) (h : Dv w X db mb sz u pw lf F) (hs : s.length ≤ 9223372036854775807) (hu : u ≤ 1000000000) (hul : lenAt F s ≤ u) :
    Calls Try.prog 37 #[.pointer (some ⟨db, 0, none⟩), .string (bs s)] w fun e w' => e = .returned (.tuple #[]) ∧ Dv w' X db mb sz (u - lenAt F s) pw lf (dropF F s) ∧ Wx (fun i => i = db ∨ i = mb) w w' := by
  have mixed : Try.prog.follows Departure.mixedOrders = true := by kernel_rfl
  obtain ⟨⟨c0, c1, c2, c3, c4⟩, fz⟩ := h.cells
  have hlk := h.look (s := s) hs
  have HKy : Hid (keyOf Try.prog 9 (.string (bs s)) = some (.string s)) := key_of hs
  cases hF : lookF F s with
  | some f =>
    obtain ⟨hf, hnm⟩ := lookF_some hF
    obtain ⟨b0, b1, bz, n1, n2, n3⟩ := h.file hf
    rw [ptrF_some hF] at hlk
    obtain ⟨fa, fc, ev, -, -, -⟩ := (h.fs.row f hf).form
    have hL : lenAt F s = f.l.length := by unfold lenAt; rw [hF]
    rw [hL] at hul
    have hcast : ((u : Int) - (f.l.length : Int)) = ((u - f.l.length : Nat) : Int) := by omega
    have HU := hide_p (h.used (u - f.l.length))
    rw [← hcast] at HU
    have HM : Hid ((w.drew.setCell ⟨db, 1, none⟩ (.int .i64 ((u : Int) - (f.l.length : Int)))).ownsMap Try.prog 9 ptrR mb F.length (DF F)) := HU.out.1.fs.map
    have HC2 : Hid ((w.drew.setCell ⟨db, 1, none⟩ (.int .i64 ((u : Int) - (f.l.length : Int)))).cell? ⟨db, 2, none⟩ = some (.map (some mb))) := HU.out.1.cells.1.2.2.1
    rw [ev] at b0
    rw [hL]
    clear hL h hF hf hnm ev n2 n3 hcast
    have hul2 : (f.l.length : Int) ≤ u := by omega
    have hu2 : (u : Int) ≤ 1000000000 := by omega
    have hm0 : (0 : Int) ≤ f.l.length := by omega
    generalize f.l.length = m at *
    generalize f.b = fb at *
    generalize bs s = S at *
    go_enter Try.func37, Try.ntmps37
    go_wp2_with fail
    go_region
    have c2' := HC2.out
    clear HC2
    go_wp2_with (at_delete; refine wpList_delete_own _ rfl _ _ 56 9 rfl 64 keyed Try.underlying56 ptrR mb F.length (DF F) rfl HM.out (.string S) (.string s) rfl HKy.out ?_; intro w1 hw1 hw2)
    go_end0
    obtain ⟨r1, r2⟩ := HU.out.1.del s hw1 hw2
    exact ⟨rfl, r1, (HU.out.2.more fun i hi => Or.inl (Or.inl hi)).trans r2 fun i hi => Or.inl (Or.inr hi)⟩
  | none =>
    rw [ptrF_none hF] at hlk
    have hL : lenAt F s = 0 := by unfold lenAt; rw [hF]
    have hD : dropF F s = F := dropF_same (lookF_none hF)
    rw [hL, hD, Nat.sub_zero]
    have HD := hide_p h
    clear h hL hD hF hul
    generalize bs s = S at *
    go_enter Try.func37, Try.ntmps37
    go_wp2
    go_end0
    exact ⟨rfl, HD.out, Wx.refl _ _⟩

end Go.Proofs.Ytgkgflkcnigeaaa
