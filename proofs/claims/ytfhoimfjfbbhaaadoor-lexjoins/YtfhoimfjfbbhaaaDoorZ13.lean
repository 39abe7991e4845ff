/-
  LxKey, LxName, DigQuiet
-/
import Derived.Deep.RegionHeld3
import Derived.Test.YtfhoimfjfbbhaaaDoorZ12

/-
  Layer 10: the landed Key, walked.
-/
namespace Go.Proofs.YtfhoimfjfbbhaaaDoor
set_option maxRecDepth 100000
open Go.RowKit Txt Lx


set_option maxHeartbeats 400000 in
theorem key_0 (S : ByteArray) (w : World)  (e0 : (S.toList == [97, 110, 100]) = true) : Calls Tryd.prog 6 #[.string S] w fun e w' => e = .returned (.bool true) ∧ w' = w := by
  go_enter Tryd.func6, Tryd.ntmps6
  go_wp2
  go_ret
  exact ⟨rfl, rfl⟩

set_option maxHeartbeats 400000 in
theorem key_1 (S : ByteArray) (w : World) (e0 : (S.toList == [97, 110, 100]) = false) (e1 : (S.toList == [98, 114, 101, 97, 107]) = true) : Calls Tryd.prog 6 #[.string S] w fun e w' => e = .returned (.bool true) ∧ w' = w := by
  go_enter Tryd.func6, Tryd.ntmps6
  go_wp2
  go_ret
  exact ⟨rfl, rfl⟩

set_option maxHeartbeats 400000 in
theorem key_2 (S : ByteArray) (w : World) (e0 : (S.toList == [97, 110, 100]) = false) (e1 : (S.toList == [98, 114, 101, 97, 107]) = false) (e2 : (S.toList == [100, 111]) = true) : Calls Tryd.prog 6 #[.string S] w fun e w' => e = .returned (.bool true) ∧ w' = w := by
  go_enter Tryd.func6, Tryd.ntmps6
  go_wp2
  go_ret
  exact ⟨rfl, rfl⟩

set_option maxHeartbeats 400000 in
theorem key_3 (S : ByteArray) (w : World) (e0 : (S.toList == [97, 110, 100]) = false) (e1 : (S.toList == [98, 114, 101, 97, 107]) = false) (e2 : (S.toList == [100, 111]) = false) (e3 : (S.toList == [101, 108, 115, 101]) = true) : Calls Tryd.prog 6 #[.string S] w fun e w' => e = .returned (.bool true) ∧ w' = w := by
  go_enter Tryd.func6, Tryd.ntmps6
  go_wp2
  go_ret
  exact ⟨rfl, rfl⟩

set_option maxHeartbeats 400000 in
theorem key_4 (S : ByteArray) (w : World) (e0 : (S.toList == [97, 110, 100]) = false) (e1 : (S.toList == [98, 114, 101, 97, 107]) = false) (e2 : (S.toList == [100, 111]) = false) (e3 : (S.toList == [101, 108, 115, 101]) = false) (e4 : (S.toList == [101, 108, 115, 101, 105, 102]) = true) : Calls Tryd.prog 6 #[.string S] w fun e w' => e = .returned (.bool true) ∧ w' = w := by
  go_enter Tryd.func6, Tryd.ntmps6
  go_wp2
  go_ret
  exact ⟨rfl, rfl⟩

set_option maxHeartbeats 400000 in
theorem key_5 (S : ByteArray) (w : World) (e0 : (S.toList == [97, 110, 100]) = false) (e1 : (S.toList == [98, 114, 101, 97, 107]) = false) (e2 : (S.toList == [100, 111]) = false) (e3 : (S.toList == [101, 108, 115, 101]) = false) (e4 : (S.toList == [101, 108, 115, 101, 105, 102]) = false) (e5 : (S.toList == [101, 110, 100]) = true) : Calls Tryd.prog 6 #[.string S] w fun e w' => e = .returned (.bool true) ∧ w' = w := by
  go_enter Tryd.func6, Tryd.ntmps6
  go_wp2
  go_ret
  exact ⟨rfl, rfl⟩

set_option maxHeartbeats 400000 in
theorem key_6 (S : ByteArray) (w : World) (e0 : (S.toList == [97, 110, 100]) = false) (e1 : (S.toList == [98, 114, 101, 97, 107]) = false) (e2 : (S.toList == [100, 111]) = false) (e3 : (S.toList == [101, 108, 115, 101]) = false) (e4 : (S.toList == [101, 108, 115, 101, 105, 102]) = false) (e5 : (S.toList == [101, 110, 100]) = false) (e6 : (S.toList == [102, 97, 108, 115, 101]) = true) : Calls Tryd.prog 6 #[.string S] w fun e w' => e = .returned (.bool true) ∧ w' = w := by
  go_enter Tryd.func6, Tryd.ntmps6
  go_wp2
  go_ret
  exact ⟨rfl, rfl⟩

set_option maxHeartbeats 400000 in
theorem key_7 (S : ByteArray) (w : World) (e0 : (S.toList == [97, 110, 100]) = false) (e1 : (S.toList == [98, 114, 101, 97, 107]) = false) (e2 : (S.toList == [100, 111]) = false) (e3 : (S.toList == [101, 108, 115, 101]) = false) (e4 : (S.toList == [101, 108, 115, 101, 105, 102]) = false) (e5 : (S.toList == [101, 110, 100]) = false) (e6 : (S.toList == [102, 97, 108, 115, 101]) = false) (e7 : (S.toList == [102, 111, 114]) = true) : Calls Tryd.prog 6 #[.string S] w fun e w' => e = .returned (.bool true) ∧ w' = w := by
  go_enter Tryd.func6, Tryd.ntmps6
  go_wp2
  go_ret
  exact ⟨rfl, rfl⟩

set_option maxHeartbeats 400000 in
theorem key_8 (S : ByteArray) (w : World) (e0 : (S.toList == [97, 110, 100]) = false) (e1 : (S.toList == [98, 114, 101, 97, 107]) = false) (e2 : (S.toList == [100, 111]) = false) (e3 : (S.toList == [101, 108, 115, 101]) = false) (e4 : (S.toList == [101, 108, 115, 101, 105, 102]) = false) (e5 : (S.toList == [101, 110, 100]) = false) (e6 : (S.toList == [102, 97, 108, 115, 101]) = false) (e7 : (S.toList == [102, 111, 114]) = false) (e8 : (S.toList == [102, 117, 110, 99, 116, 105, 111, 110]) = true) : Calls Tryd.prog 6 #[.string S] w fun e w' => e = .returned (.bool true) ∧ w' = w := by
  go_enter Tryd.func6, Tryd.ntmps6
  go_wp2
  go_ret
  exact ⟨rfl, rfl⟩

set_option maxHeartbeats 400000 in
theorem key_9 (S : ByteArray) (w : World) (e0 : (S.toList == [97, 110, 100]) = false) (e1 : (S.toList == [98, 114, 101, 97, 107]) = false) (e2 : (S.toList == [100, 111]) = false) (e3 : (S.toList == [101, 108, 115, 101]) = false) (e4 : (S.toList == [101, 108, 115, 101, 105, 102]) = false) (e5 : (S.toList == [101, 110, 100]) = false) (e6 : (S.toList == [102, 97, 108, 115, 101]) = false) (e7 : (S.toList == [102, 111, 114]) = false) (e8 : (S.toList == [102, 117, 110, 99, 116, 105, 111, 110]) = false) (e9 : (S.toList == [105, 102]) = true) : Calls Tryd.prog 6 #[.string S] w fun e w' => e = .returned (.bool true) ∧ w' = w := by
  go_enter Tryd.func6, Tryd.ntmps6
  go_wp2
  go_ret
  exact ⟨rfl, rfl⟩

set_option maxHeartbeats 400000 in
theorem key_10 (S : ByteArray) (w : World) (e0 : (S.toList == [97, 110, 100]) = false) (e1 : (S.toList == [98, 114, 101, 97, 107]) = false) (e2 : (S.toList == [100, 111]) = false) (e3 : (S.toList == [101, 108, 115, 101]) = false) (e4 : (S.toList == [101, 108, 115, 101, 105, 102]) = false) (e5 : (S.toList == [101, 110, 100]) = false) (e6 : (S.toList == [102, 97, 108, 115, 101]) = false) (e7 : (S.toList == [102, 111, 114]) = false) (e8 : (S.toList == [102, 117, 110, 99, 116, 105, 111, 110]) = false) (e9 : (S.toList == [105, 102]) = false) (e10 : (S.toList == [108, 111, 99, 97, 108]) = true) : Calls Tryd.prog 6 #[.string S] w fun e w' => e = .returned (.bool true) ∧ w' = w := by
  go_enter Tryd.func6, Tryd.ntmps6
  go_wp2
  go_ret
  exact ⟨rfl, rfl⟩

set_option maxHeartbeats 400000 in
theorem key_11 (S : ByteArray) (w : World) (e0 : (S.toList == [97, 110, 100]) = false) (e1 : (S.toList == [98, 114, 101, 97, 107]) = false) (e2 : (S.toList == [100, 111]) = false) (e3 : (S.toList == [101, 108, 115, 101]) = false) (e4 : (S.toList == [101, 108, 115, 101, 105, 102]) = false) (e5 : (S.toList == [101, 110, 100]) = false) (e6 : (S.toList == [102, 97, 108, 115, 101]) = false) (e7 : (S.toList == [102, 111, 114]) = false) (e8 : (S.toList == [102, 117, 110, 99, 116, 105, 111, 110]) = false) (e9 : (S.toList == [105, 102]) = false) (e10 : (S.toList == [108, 111, 99, 97, 108]) = false) (e11 : (S.toList == [110, 105, 108]) = true) : Calls Tryd.prog 6 #[.string S] w fun e w' => e = .returned (.bool true) ∧ w' = w := by
  go_enter Tryd.func6, Tryd.ntmps6
  go_wp2
  go_ret
  exact ⟨rfl, rfl⟩

set_option maxHeartbeats 400000 in
theorem key_12 (S : ByteArray) (w : World) (e0 : (S.toList == [97, 110, 100]) = false) (e1 : (S.toList == [98, 114, 101, 97, 107]) = false) (e2 : (S.toList == [100, 111]) = false) (e3 : (S.toList == [101, 108, 115, 101]) = false) (e4 : (S.toList == [101, 108, 115, 101, 105, 102]) = false) (e5 : (S.toList == [101, 110, 100]) = false) (e6 : (S.toList == [102, 97, 108, 115, 101]) = false) (e7 : (S.toList == [102, 111, 114]) = false) (e8 : (S.toList == [102, 117, 110, 99, 116, 105, 111, 110]) = false) (e9 : (S.toList == [105, 102]) = false) (e10 : (S.toList == [108, 111, 99, 97, 108]) = false) (e11 : (S.toList == [110, 105, 108]) = false) (e12 : (S.toList == [110, 111, 116]) = true) : Calls Tryd.prog 6 #[.string S] w fun e w' => e = .returned (.bool true) ∧ w' = w := by
  go_enter Tryd.func6, Tryd.ntmps6
  go_wp2
  go_ret
  exact ⟨rfl, rfl⟩

set_option maxHeartbeats 400000 in
theorem key_13 (S : ByteArray) (w : World) (e0 : (S.toList == [97, 110, 100]) = false) (e1 : (S.toList == [98, 114, 101, 97, 107]) = false) (e2 : (S.toList == [100, 111]) = false) (e3 : (S.toList == [101, 108, 115, 101]) = false) (e4 : (S.toList == [101, 108, 115, 101, 105, 102]) = false) (e5 : (S.toList == [101, 110, 100]) = false) (e6 : (S.toList == [102, 97, 108, 115, 101]) = false) (e7 : (S.toList == [102, 111, 114]) = false) (e8 : (S.toList == [102, 117, 110, 99, 116, 105, 111, 110]) = false) (e9 : (S.toList == [105, 102]) = false) (e10 : (S.toList == [108, 111, 99, 97, 108]) = false) (e11 : (S.toList == [110, 105, 108]) = false) (e12 : (S.toList == [110, 111, 116]) = false) (e13 : (S.toList == [111, 114]) = true) : Calls Tryd.prog 6 #[.string S] w fun e w' => e = .returned (.bool true) ∧ w' = w := by
  go_enter Tryd.func6, Tryd.ntmps6
  go_wp2
  go_ret
  exact ⟨rfl, rfl⟩

set_option maxHeartbeats 400000 in
theorem key_14 (S : ByteArray) (w : World) (e0 : (S.toList == [97, 110, 100]) = false) (e1 : (S.toList == [98, 114, 101, 97, 107]) = false) (e2 : (S.toList == [100, 111]) = false) (e3 : (S.toList == [101, 108, 115, 101]) = false) (e4 : (S.toList == [101, 108, 115, 101, 105, 102]) = false) (e5 : (S.toList == [101, 110, 100]) = false) (e6 : (S.toList == [102, 97, 108, 115, 101]) = false) (e7 : (S.toList == [102, 111, 114]) = false) (e8 : (S.toList == [102, 117, 110, 99, 116, 105, 111, 110]) = false) (e9 : (S.toList == [105, 102]) = false) (e10 : (S.toList == [108, 111, 99, 97, 108]) = false) (e11 : (S.toList == [110, 105, 108]) = false) (e12 : (S.toList == [110, 111, 116]) = false) (e13 : (S.toList == [111, 114]) = false) (e14 : (S.toList == [114, 101, 116, 117, 114, 110]) = true) : Calls Tryd.prog 6 #[.string S] w fun e w' => e = .returned (.bool true) ∧ w' = w := by
  go_enter Tryd.func6, Tryd.ntmps6
  go_wp2
  go_ret
  exact ⟨rfl, rfl⟩

set_option maxHeartbeats 400000 in
theorem key_15 (S : ByteArray) (w : World) (e0 : (S.toList == [97, 110, 100]) = false) (e1 : (S.toList == [98, 114, 101, 97, 107]) = false) (e2 : (S.toList == [100, 111]) = false) (e3 : (S.toList == [101, 108, 115, 101]) = false) (e4 : (S.toList == [101, 108, 115, 101, 105, 102]) = false) (e5 : (S.toList == [101, 110, 100]) = false) (e6 : (S.toList == [102, 97, 108, 115, 101]) = false) (e7 : (S.toList == [102, 111, 114]) = false) (e8 : (S.toList == [102, 117, 110, 99, 116, 105, 111, 110]) = false) (e9 : (S.toList == [105, 102]) = false) (e10 : (S.toList == [108, 111, 99, 97, 108]) = false) (e11 : (S.toList == [110, 105, 108]) = false) (e12 : (S.toList == [110, 111, 116]) = false) (e13 : (S.toList == [111, 114]) = false) (e14 : (S.toList == [114, 101, 116, 117, 114, 110]) = false) (e15 : (S.toList == [116, 104, 101, 110]) = true) : Calls Tryd.prog 6 #[.string S] w fun e w' => e = .returned (.bool true) ∧ w' = w := by
  go_enter Tryd.func6, Tryd.ntmps6
  go_wp2
  go_ret
  exact ⟨rfl, rfl⟩

set_option maxHeartbeats 400000 in
theorem key_16 (S : ByteArray) (w : World) (e0 : (S.toList == [97, 110, 100]) = false) (e1 : (S.toList == [98, 114, 101, 97, 107]) = false) (e2 : (S.toList == [100, 111]) = false) (e3 : (S.toList == [101, 108, 115, 101]) = false) (e4 : (S.toList == [101, 108, 115, 101, 105, 102]) = false) (e5 : (S.toList == [101, 110, 100]) = false) (e6 : (S.toList == [102, 97, 108, 115, 101]) = false) (e7 : (S.toList == [102, 111, 114]) = false) (e8 : (S.toList == [102, 117, 110, 99, 116, 105, 111, 110]) = false) (e9 : (S.toList == [105, 102]) = false) (e10 : (S.toList == [108, 111, 99, 97, 108]) = false) (e11 : (S.toList == [110, 105, 108]) = false) (e12 : (S.toList == [110, 111, 116]) = false) (e13 : (S.toList == [111, 114]) = false) (e14 : (S.toList == [114, 101, 116, 117, 114, 110]) = false) (e15 : (S.toList == [116, 104, 101, 110]) = false) (e16 : (S.toList == [116, 114, 117, 101]) = true) : Calls Tryd.prog 6 #[.string S] w fun e w' => e = .returned (.bool true) ∧ w' = w := by
  go_enter Tryd.func6, Tryd.ntmps6
  go_wp2
  go_ret
  exact ⟨rfl, rfl⟩

set_option maxHeartbeats 400000 in
theorem key_17 (S : ByteArray) (w : World) (e0 : (S.toList == [97, 110, 100]) = false) (e1 : (S.toList == [98, 114, 101, 97, 107]) = false) (e2 : (S.toList == [100, 111]) = false) (e3 : (S.toList == [101, 108, 115, 101]) = false) (e4 : (S.toList == [101, 108, 115, 101, 105, 102]) = false) (e5 : (S.toList == [101, 110, 100]) = false) (e6 : (S.toList == [102, 97, 108, 115, 101]) = false) (e7 : (S.toList == [102, 111, 114]) = false) (e8 : (S.toList == [102, 117, 110, 99, 116, 105, 111, 110]) = false) (e9 : (S.toList == [105, 102]) = false) (e10 : (S.toList == [108, 111, 99, 97, 108]) = false) (e11 : (S.toList == [110, 105, 108]) = false) (e12 : (S.toList == [110, 111, 116]) = false) (e13 : (S.toList == [111, 114]) = false) (e14 : (S.toList == [114, 101, 116, 117, 114, 110]) = false) (e15 : (S.toList == [116, 104, 101, 110]) = false) (e16 : (S.toList == [116, 114, 117, 101]) = false) (e17 : (S.toList == [119, 104, 105, 108, 101]) = true) : Calls Tryd.prog 6 #[.string S] w fun e w' => e = .returned (.bool true) ∧ w' = w := by
  go_enter Tryd.func6, Tryd.ntmps6
  go_wp2
  go_ret
  exact ⟨rfl, rfl⟩

set_option maxHeartbeats 400000 in
theorem key_18 (S : ByteArray) (w : World) (e0 : (S.toList == [97, 110, 100]) = false) (e1 : (S.toList == [98, 114, 101, 97, 107]) = false) (e2 : (S.toList == [100, 111]) = false) (e3 : (S.toList == [101, 108, 115, 101]) = false) (e4 : (S.toList == [101, 108, 115, 101, 105, 102]) = false) (e5 : (S.toList == [101, 110, 100]) = false) (e6 : (S.toList == [102, 97, 108, 115, 101]) = false) (e7 : (S.toList == [102, 111, 114]) = false) (e8 : (S.toList == [102, 117, 110, 99, 116, 105, 111, 110]) = false) (e9 : (S.toList == [105, 102]) = false) (e10 : (S.toList == [108, 111, 99, 97, 108]) = false) (e11 : (S.toList == [110, 105, 108]) = false) (e12 : (S.toList == [110, 111, 116]) = false) (e13 : (S.toList == [111, 114]) = false) (e14 : (S.toList == [114, 101, 116, 117, 114, 110]) = false) (e15 : (S.toList == [116, 104, 101, 110]) = false) (e16 : (S.toList == [116, 114, 117, 101]) = false) (e17 : (S.toList == [119, 104, 105, 108, 101]) = false) : Calls Tryd.prog 6 #[.string S] w fun e w' => e = .returned (.bool false) ∧ w' = w := by
  go_enter Tryd.func6, Tryd.ntmps6
  go_wp2
  go_ret
  exact ⟨rfl, rfl⟩

theorem keyw_any (s : List UInt8) (w : World) : Calls Tryd.prog 6 #[.string (bs s)] w fun e w' => e = .returned (.bool (isKey s)) ∧ w' = w := by
  have e0 : ((bs s).toList == [97, 110, 100]) = (s == [97, 110, 100]) := by rw [bs_toList]
  have e1 : ((bs s).toList == [98, 114, 101, 97, 107]) = (s == [98, 114, 101, 97, 107]) := by rw [bs_toList]
  have e2 : ((bs s).toList == [100, 111]) = (s == [100, 111]) := by rw [bs_toList]
  have e3 : ((bs s).toList == [101, 108, 115, 101]) = (s == [101, 108, 115, 101]) := by rw [bs_toList]
  have e4 : ((bs s).toList == [101, 108, 115, 101, 105, 102]) = (s == [101, 108, 115, 101, 105, 102]) := by rw [bs_toList]
  have e5 : ((bs s).toList == [101, 110, 100]) = (s == [101, 110, 100]) := by rw [bs_toList]
  have e6 : ((bs s).toList == [102, 97, 108, 115, 101]) = (s == [102, 97, 108, 115, 101]) := by rw [bs_toList]
  have e7 : ((bs s).toList == [102, 111, 114]) = (s == [102, 111, 114]) := by rw [bs_toList]
  have e8 : ((bs s).toList == [102, 117, 110, 99, 116, 105, 111, 110]) = (s == [102, 117, 110, 99, 116, 105, 111, 110]) := by rw [bs_toList]
  have e9 : ((bs s).toList == [105, 102]) = (s == [105, 102]) := by rw [bs_toList]
  have e10 : ((bs s).toList == [108, 111, 99, 97, 108]) = (s == [108, 111, 99, 97, 108]) := by rw [bs_toList]
  have e11 : ((bs s).toList == [110, 105, 108]) = (s == [110, 105, 108]) := by rw [bs_toList]
  have e12 : ((bs s).toList == [110, 111, 116]) = (s == [110, 111, 116]) := by rw [bs_toList]
  have e13 : ((bs s).toList == [111, 114]) = (s == [111, 114]) := by rw [bs_toList]
  have e14 : ((bs s).toList == [114, 101, 116, 117, 114, 110]) = (s == [114, 101, 116, 117, 114, 110]) := by rw [bs_toList]
  have e15 : ((bs s).toList == [116, 104, 101, 110]) = (s == [116, 104, 101, 110]) := by rw [bs_toList]
  have e16 : ((bs s).toList == [116, 114, 117, 101]) = (s == [116, 114, 117, 101]) := by rw [bs_toList]
  have e17 : ((bs s).toList == [119, 104, 105, 108, 101]) = (s == [119, 104, 105, 108, 101]) := by rw [bs_toList]
  by_cases h0 : s = [97, 110, 100]
  · have k : isKey s = true := by rw [h0]; rfl
    rw [k]
    exact key_0 _ w  (e0.trans (beq_iff_eq.2 h0))
  by_cases h1 : s = [98, 114, 101, 97, 107]
  · have k : isKey s = true := by rw [h1]; rfl
    rw [k]
    exact key_1 _ w (e0.trans (beq_eq_false_iff_ne.2 h0)) (e1.trans (beq_iff_eq.2 h1))
  by_cases h2 : s = [100, 111]
  · have k : isKey s = true := by rw [h2]; rfl
    rw [k]
    exact key_2 _ w (e0.trans (beq_eq_false_iff_ne.2 h0)) (e1.trans (beq_eq_false_iff_ne.2 h1)) (e2.trans (beq_iff_eq.2 h2))
  by_cases h3 : s = [101, 108, 115, 101]
  · have k : isKey s = true := by rw [h3]; rfl
    rw [k]
    exact key_3 _ w (e0.trans (beq_eq_false_iff_ne.2 h0)) (e1.trans (beq_eq_false_iff_ne.2 h1)) (e2.trans (beq_eq_false_iff_ne.2 h2)) (e3.trans (beq_iff_eq.2 h3))
  by_cases h4 : s = [101, 108, 115, 101, 105, 102]
  · have k : isKey s = true := by rw [h4]; rfl
    rw [k]
    exact key_4 _ w (e0.trans (beq_eq_false_iff_ne.2 h0)) (e1.trans (beq_eq_false_iff_ne.2 h1)) (e2.trans (beq_eq_false_iff_ne.2 h2)) (e3.trans (beq_eq_false_iff_ne.2 h3)) (e4.trans (beq_iff_eq.2 h4))
  by_cases h5 : s = [101, 110, 100]
  · have k : isKey s = true := by rw [h5]; rfl
    rw [k]
    exact key_5 _ w (e0.trans (beq_eq_false_iff_ne.2 h0)) (e1.trans (beq_eq_false_iff_ne.2 h1)) (e2.trans (beq_eq_false_iff_ne.2 h2)) (e3.trans (beq_eq_false_iff_ne.2 h3)) (e4.trans (beq_eq_false_iff_ne.2 h4)) (e5.trans (beq_iff_eq.2 h5))
  by_cases h6 : s = [102, 97, 108, 115, 101]
  · have k : isKey s = true := by rw [h6]; rfl
    rw [k]
    exact key_6 _ w (e0.trans (beq_eq_false_iff_ne.2 h0)) (e1.trans (beq_eq_false_iff_ne.2 h1)) (e2.trans (beq_eq_false_iff_ne.2 h2)) (e3.trans (beq_eq_false_iff_ne.2 h3)) (e4.trans (beq_eq_false_iff_ne.2 h4)) (e5.trans (beq_eq_false_iff_ne.2 h5)) (e6.trans (beq_iff_eq.2 h6))
  by_cases h7 : s = [102, 111, 114]
  · have k : isKey s = true := by rw [h7]; rfl
    rw [k]
    exact key_7 _ w (e0.trans (beq_eq_false_iff_ne.2 h0)) (e1.trans (beq_eq_false_iff_ne.2 h1)) (e2.trans (beq_eq_false_iff_ne.2 h2)) (e3.trans (beq_eq_false_iff_ne.2 h3)) (e4.trans (beq_eq_false_iff_ne.2 h4)) (e5.trans (beq_eq_false_iff_ne.2 h5)) (e6.trans (beq_eq_false_iff_ne.2 h6)) (e7.trans (beq_iff_eq.2 h7))
  by_cases h8 : s = [102, 117, 110, 99, 116, 105, 111, 110]
  · have k : isKey s = true := by rw [h8]; rfl
    rw [k]
    exact key_8 _ w (e0.trans (beq_eq_false_iff_ne.2 h0)) (e1.trans (beq_eq_false_iff_ne.2 h1)) (e2.trans (beq_eq_false_iff_ne.2 h2)) (e3.trans (beq_eq_false_iff_ne.2 h3)) (e4.trans (beq_eq_false_iff_ne.2 h4)) (e5.trans (beq_eq_false_iff_ne.2 h5)) (e6.trans (beq_eq_false_iff_ne.2 h6)) (e7.trans (beq_eq_false_iff_ne.2 h7)) (e8.trans (beq_iff_eq.2 h8))
  by_cases h9 : s = [105, 102]
  · have k : isKey s = true := by rw [h9]; rfl
    rw [k]
    exact key_9 _ w (e0.trans (beq_eq_false_iff_ne.2 h0)) (e1.trans (beq_eq_false_iff_ne.2 h1)) (e2.trans (beq_eq_false_iff_ne.2 h2)) (e3.trans (beq_eq_false_iff_ne.2 h3)) (e4.trans (beq_eq_false_iff_ne.2 h4)) (e5.trans (beq_eq_false_iff_ne.2 h5)) (e6.trans (beq_eq_false_iff_ne.2 h6)) (e7.trans (beq_eq_false_iff_ne.2 h7)) (e8.trans (beq_eq_false_iff_ne.2 h8)) (e9.trans (beq_iff_eq.2 h9))
  by_cases h10 : s = [108, 111, 99, 97, 108]
  · have k : isKey s = true := by rw [h10]; rfl
    rw [k]
    exact key_10 _ w (e0.trans (beq_eq_false_iff_ne.2 h0)) (e1.trans (beq_eq_false_iff_ne.2 h1)) (e2.trans (beq_eq_false_iff_ne.2 h2)) (e3.trans (beq_eq_false_iff_ne.2 h3)) (e4.trans (beq_eq_false_iff_ne.2 h4)) (e5.trans (beq_eq_false_iff_ne.2 h5)) (e6.trans (beq_eq_false_iff_ne.2 h6)) (e7.trans (beq_eq_false_iff_ne.2 h7)) (e8.trans (beq_eq_false_iff_ne.2 h8)) (e9.trans (beq_eq_false_iff_ne.2 h9)) (e10.trans (beq_iff_eq.2 h10))
  by_cases h11 : s = [110, 105, 108]
  · have k : isKey s = true := by rw [h11]; rfl
    rw [k]
    exact key_11 _ w (e0.trans (beq_eq_false_iff_ne.2 h0)) (e1.trans (beq_eq_false_iff_ne.2 h1)) (e2.trans (beq_eq_false_iff_ne.2 h2)) (e3.trans (beq_eq_false_iff_ne.2 h3)) (e4.trans (beq_eq_false_iff_ne.2 h4)) (e5.trans (beq_eq_false_iff_ne.2 h5)) (e6.trans (beq_eq_false_iff_ne.2 h6)) (e7.trans (beq_eq_false_iff_ne.2 h7)) (e8.trans (beq_eq_false_iff_ne.2 h8)) (e9.trans (beq_eq_false_iff_ne.2 h9)) (e10.trans (beq_eq_false_iff_ne.2 h10)) (e11.trans (beq_iff_eq.2 h11))
  by_cases h12 : s = [110, 111, 116]
  · have k : isKey s = true := by rw [h12]; rfl
    rw [k]
    exact key_12 _ w (e0.trans (beq_eq_false_iff_ne.2 h0)) (e1.trans (beq_eq_false_iff_ne.2 h1)) (e2.trans (beq_eq_false_iff_ne.2 h2)) (e3.trans (beq_eq_false_iff_ne.2 h3)) (e4.trans (beq_eq_false_iff_ne.2 h4)) (e5.trans (beq_eq_false_iff_ne.2 h5)) (e6.trans (beq_eq_false_iff_ne.2 h6)) (e7.trans (beq_eq_false_iff_ne.2 h7)) (e8.trans (beq_eq_false_iff_ne.2 h8)) (e9.trans (beq_eq_false_iff_ne.2 h9)) (e10.trans (beq_eq_false_iff_ne.2 h10)) (e11.trans (beq_eq_false_iff_ne.2 h11)) (e12.trans (beq_iff_eq.2 h12))
  by_cases h13 : s = [111, 114]
  · have k : isKey s = true := by rw [h13]; rfl
    rw [k]
    exact key_13 _ w (e0.trans (beq_eq_false_iff_ne.2 h0)) (e1.trans (beq_eq_false_iff_ne.2 h1)) (e2.trans (beq_eq_false_iff_ne.2 h2)) (e3.trans (beq_eq_false_iff_ne.2 h3)) (e4.trans (beq_eq_false_iff_ne.2 h4)) (e5.trans (beq_eq_false_iff_ne.2 h5)) (e6.trans (beq_eq_false_iff_ne.2 h6)) (e7.trans (beq_eq_false_iff_ne.2 h7)) (e8.trans (beq_eq_false_iff_ne.2 h8)) (e9.trans (beq_eq_false_iff_ne.2 h9)) (e10.trans (beq_eq_false_iff_ne.2 h10)) (e11.trans (beq_eq_false_iff_ne.2 h11)) (e12.trans (beq_eq_false_iff_ne.2 h12)) (e13.trans (beq_iff_eq.2 h13))
  by_cases h14 : s = [114, 101, 116, 117, 114, 110]
  · have k : isKey s = true := by rw [h14]; rfl
    rw [k]
    exact key_14 _ w (e0.trans (beq_eq_false_iff_ne.2 h0)) (e1.trans (beq_eq_false_iff_ne.2 h1)) (e2.trans (beq_eq_false_iff_ne.2 h2)) (e3.trans (beq_eq_false_iff_ne.2 h3)) (e4.trans (beq_eq_false_iff_ne.2 h4)) (e5.trans (beq_eq_false_iff_ne.2 h5)) (e6.trans (beq_eq_false_iff_ne.2 h6)) (e7.trans (beq_eq_false_iff_ne.2 h7)) (e8.trans (beq_eq_false_iff_ne.2 h8)) (e9.trans (beq_eq_false_iff_ne.2 h9)) (e10.trans (beq_eq_false_iff_ne.2 h10)) (e11.trans (beq_eq_false_iff_ne.2 h11)) (e12.trans (beq_eq_false_iff_ne.2 h12)) (e13.trans (beq_eq_false_iff_ne.2 h13)) (e14.trans (beq_iff_eq.2 h14))
  by_cases h15 : s = [116, 104, 101, 110]
  · have k : isKey s = true := by rw [h15]; rfl
    rw [k]
    exact key_15 _ w (e0.trans (beq_eq_false_iff_ne.2 h0)) (e1.trans (beq_eq_false_iff_ne.2 h1)) (e2.trans (beq_eq_false_iff_ne.2 h2)) (e3.trans (beq_eq_false_iff_ne.2 h3)) (e4.trans (beq_eq_false_iff_ne.2 h4)) (e5.trans (beq_eq_false_iff_ne.2 h5)) (e6.trans (beq_eq_false_iff_ne.2 h6)) (e7.trans (beq_eq_false_iff_ne.2 h7)) (e8.trans (beq_eq_false_iff_ne.2 h8)) (e9.trans (beq_eq_false_iff_ne.2 h9)) (e10.trans (beq_eq_false_iff_ne.2 h10)) (e11.trans (beq_eq_false_iff_ne.2 h11)) (e12.trans (beq_eq_false_iff_ne.2 h12)) (e13.trans (beq_eq_false_iff_ne.2 h13)) (e14.trans (beq_eq_false_iff_ne.2 h14)) (e15.trans (beq_iff_eq.2 h15))
  by_cases h16 : s = [116, 114, 117, 101]
  · have k : isKey s = true := by rw [h16]; rfl
    rw [k]
    exact key_16 _ w (e0.trans (beq_eq_false_iff_ne.2 h0)) (e1.trans (beq_eq_false_iff_ne.2 h1)) (e2.trans (beq_eq_false_iff_ne.2 h2)) (e3.trans (beq_eq_false_iff_ne.2 h3)) (e4.trans (beq_eq_false_iff_ne.2 h4)) (e5.trans (beq_eq_false_iff_ne.2 h5)) (e6.trans (beq_eq_false_iff_ne.2 h6)) (e7.trans (beq_eq_false_iff_ne.2 h7)) (e8.trans (beq_eq_false_iff_ne.2 h8)) (e9.trans (beq_eq_false_iff_ne.2 h9)) (e10.trans (beq_eq_false_iff_ne.2 h10)) (e11.trans (beq_eq_false_iff_ne.2 h11)) (e12.trans (beq_eq_false_iff_ne.2 h12)) (e13.trans (beq_eq_false_iff_ne.2 h13)) (e14.trans (beq_eq_false_iff_ne.2 h14)) (e15.trans (beq_eq_false_iff_ne.2 h15)) (e16.trans (beq_iff_eq.2 h16))
  by_cases h17 : s = [119, 104, 105, 108, 101]
  · have k : isKey s = true := by rw [h17]; rfl
    rw [k]
    exact key_17 _ w (e0.trans (beq_eq_false_iff_ne.2 h0)) (e1.trans (beq_eq_false_iff_ne.2 h1)) (e2.trans (beq_eq_false_iff_ne.2 h2)) (e3.trans (beq_eq_false_iff_ne.2 h3)) (e4.trans (beq_eq_false_iff_ne.2 h4)) (e5.trans (beq_eq_false_iff_ne.2 h5)) (e6.trans (beq_eq_false_iff_ne.2 h6)) (e7.trans (beq_eq_false_iff_ne.2 h7)) (e8.trans (beq_eq_false_iff_ne.2 h8)) (e9.trans (beq_eq_false_iff_ne.2 h9)) (e10.trans (beq_eq_false_iff_ne.2 h10)) (e11.trans (beq_eq_false_iff_ne.2 h11)) (e12.trans (beq_eq_false_iff_ne.2 h12)) (e13.trans (beq_eq_false_iff_ne.2 h13)) (e14.trans (beq_eq_false_iff_ne.2 h14)) (e15.trans (beq_eq_false_iff_ne.2 h15)) (e16.trans (beq_eq_false_iff_ne.2 h16)) (e17.trans (beq_iff_eq.2 h17))
  have k : isKey s = false := by unfold isKey keysL; simp [h0, h1, h2, h3, h4, h5, h6, h7, h8, h9, h10, h11, h12, h13, h14, h15, h16, h17]
  rw [k]
  exact key_18 _ w (e0.trans (beq_eq_false_iff_ne.2 h0)) (e1.trans (beq_eq_false_iff_ne.2 h1)) (e2.trans (beq_eq_false_iff_ne.2 h2)) (e3.trans (beq_eq_false_iff_ne.2 h3)) (e4.trans (beq_eq_false_iff_ne.2 h4)) (e5.trans (beq_eq_false_iff_ne.2 h5)) (e6.trans (beq_eq_false_iff_ne.2 h6)) (e7.trans (beq_eq_false_iff_ne.2 h7)) (e8.trans (beq_eq_false_iff_ne.2 h8)) (e9.trans (beq_eq_false_iff_ne.2 h9)) (e10.trans (beq_eq_false_iff_ne.2 h10)) (e11.trans (beq_eq_false_iff_ne.2 h11)) (e12.trans (beq_eq_false_iff_ne.2 h12)) (e13.trans (beq_eq_false_iff_ne.2 h13)) (e14.trans (beq_eq_false_iff_ne.2 h14)) (e15.trans (beq_eq_false_iff_ne.2 h15)) (e16.trans (beq_eq_false_iff_ne.2 h16)) (e17.trans (beq_eq_false_iff_ne.2 h17))

end Go.Proofs.YtfhoimfjfbbhaaaDoor

/-
  Layer 10: the landed reader's name, walked.
-/
namespace Go.Proofs.YtfhoimfjfbbhaaaDoor
set_option maxRecDepth 100000
open Go.RowKit Txt Lx

/-- A token as a value. -/
def tokV (k a : Nat) (s : List UInt8) (n : Nat) : Value := .agg #[.int .i64 k, .int .i64 a, .string (bs s), .int .u64 n]
/-- What reading a word comes to. -/
def Got (b : Nat) (l : List UInt8) (a : Nat) (r : (Nat × Nat) ⊕ Wd) (w : World) (e : Ending) (w' : World) : Prop :=
  match r with
  | .inl (o, x) => e = fell (a + o) x ∧ Kb b w w'
  | .inr d => e = .returned (tokV d.k a d.s d.n) ∧ Went b l (a + d.len) w w'

/-- The block that is made for a token holds it still. -/
theorem made {w w' : World} {b : Nat} {v0 v1 v2 v3 : Value} {t : TypeId} (hlt : b < w.heap.size) (h : Kb b (w.alloc (.cells #[v0, v1, v2, v3] t)) w') :
    w'.cell? ⟨w.heap.size, 0, none⟩ = some v0 ∧ w'.cell? ⟨w.heap.size, 1, none⟩ = some v1 ∧ w'.cell? ⟨w.heap.size, 2, none⟩ = some v2 ∧ w'.cell? ⟨w.heap.size, 3, none⟩ = some v3 ∧ ∀ i, w'.frozen? ⟨w.heap.size, i, none⟩ = false := by
  have e := h.block w.heap.size (by simp) (by omega)
  have g : ∀ i, w'.cell? ⟨w.heap.size, i, none⟩ = #[v0, v1, v2, v3][i]? := by
    intro i
    rw [World.cell?_of_block (w := w.alloc (.cells #[v0, v1, v2, v3] t)) (a := ⟨w.heap.size, i, none⟩) e, World.cell?_alloc_at _ _ _ _ rfl]
  refine ⟨g 0, g 1, g 2, g 3, fun i => ?_⟩
  rw [World.frozen?_of_block (w := w.alloc (.cells #[v0, v1, v2, v3] t)) (a := ⟨w.heap.size, i, none⟩) e, World.frozen?_alloc_at _ _ _ _ rfl]

theorem set4 {B k : Nat} {a w : World} (h : Below B a w) (hk : B ≤ k) (v0 v1 v2 v3 : Value) :
    Below B a ((((w.setCell ⟨k, 0, none⟩ v0).setCell ⟨k, 1, none⟩ v1).setCell ⟨k, 2, none⟩ v2).setCell ⟨k, 3, none⟩ v3) :=
  (((h.setCell (p := ⟨k, 0, none⟩) hk _).setCell (p := ⟨k, 1, none⟩) hk _).setCell (p := ⟨k, 2, none⟩) hk _).setCell (p := ⟨k, 3, none⟩) hk _

set_option maxHeartbeats 1000000 in
theorem name_any (b a : Nat) (l : List UInt8) (w : World) (h : Rd w b l a) (hl : l.length ≤ 65536) (ha : a ≤ l.length) :
    Calls Tryd.prog 23 #[.pointer (some ⟨b, 0, none⟩)] w (Got b l a (nameW (l.drop a)) w) := by
  have hsz := bs_size l
  obtain ⟨w0, hw0⟩ : ∃ w0, w0 = w.alloc (.cells #[.int .i64 0, .int .i64 0, .string ⟨#[]⟩, .int .u64 0] 31) := ⟨_, rfl⟩
  have hrd0 : Rd w0 b l a := by rw [hw0]; exact h.kept (Below.heap_alloc w _ b h.lt)
  have hlt := h.lt
  have HW : Hid (Went b l a w0 w0) := ⟨Kb.refl _ _, hrd0⟩
  have hc1 := hrd0.c1
  rw [hw0] at hc1
  clear h hrd0
  go_enter Tryd.func23, Tryd.ntmps23
  go_wp2_with fail
  rw [← hw0] at hc1 ⊢
  go_loopg [] (l.length - a) (fun k wr => ∃ i : Nat, i ≤ l.length ∧ Hid (k = l.length - i ∧ Went b l i w0 wr ∧ i + cnt isN (l.drop i) = a + cnt isN (l.drop a)))
  case atStart => exact ⟨a, ha, ⟨rfl, HW.out, rfl⟩⟩
  case round =>
    obtain ⟨i, hi, HI⟩ := hrel
    obtain ⟨hk, ⟨hkb, hrd⟩, hcn⟩ := HI.out
    have hcell := hrd.c1
    have hfz := hrd.fz 1
    have hbyte := byteAt_any b i i l wr hrd hl (by omega)
    have hdig := isOfName_any (hb (l.drop i)) wr
    by_cases c : isN (hb (l.drop i)) = true
    · obtain ⟨c1, c2⟩ := cnt_pos (p := isN) rfl c
      rw [List.length_drop] at c2
      have HN : Hid (l.length - (i + 1) < gk ∧ Went b l (i + 1) w0 (wr.setCell ⟨b, 1, none⟩ (.int .i64 ((i + 1 : Nat) : Int))) ∧ (i + 1) + cnt isN (l.drop (i + 1)) = a + cnt isN (l.drop a)) := by
        refine ⟨by omega, ⟨hkb.trans (Kb.set _ _ _ _), hrd.set _⟩, ?_⟩
        rw [← hcn, c1, List.drop_drop]; omega
      have hi2 : i < l.length := by omega
      rw [c] at hdig
      generalize (hb (l.drop i)).toNat = n at *
      clear HI hk hkb hrd hcn c c1 c2 HW
      go_wp2_with fail
      refine hbyte.mono ?_
      rintro e w1 ⟨rfl, rfl⟩
      go_wp2_with fail
      refine hdig.mono ?_
      rintro e w1 ⟨rfl, rfl⟩
      go_wp2_with fail
      go_roundg (l.length - (i + 1))
      case measure => exact HN.out.1
      case rel => exact ⟨i + 1, by omega, ⟨rfl, HN.out.2⟩⟩
    · have h0 := cnt_zero (p := isN) (l := l.drop i) (by simpa using c)
      have hend : i = a + cnt isN (l.drop a) := by omega
      rw [show isN (hb (l.drop i)) = false by simpa using c] at hdig
      rw [hw0] at hkb
      obtain ⟨q0, q1, q2, q3, qz⟩ := made hlt hkb
      have qz0 := qz 0
      have qz1 := qz 1
      have qz2 := qz 2
      have qz3 := qz 3
      have hc0 := hrd.c0
      have hkey := fun w => keyw_any ((l.drop a).take (cnt isN (l.drop a))) w
      have hex : bs ((l.drop a).take (cnt isN (l.drop a))) = (bs l).extract a i := by rw [bs_extract, hend, Nat.add_sub_cancel_left]
      rw [hex] at hkey
      have HX : Hid (bs ((l.drop a).take (cnt isN (l.drop a))) = (bs l).extract a i) := hex
      have hne : b ≠ w.heap.size := by omega
      have HQ : Hid (∀ w', Below w.heap.size wr w' → Went b l (a + cnt isN (l.drop a)) w w') := by
        intro w' hb'
        rw [← hend]
        exact ⟨((Kb.alloc b w _).trans hkb).more hb', hrd.kept (hb'.block b hlt)⟩
      have hbr : b < wr.heap.size := hrd.lt
      have hai : a ≤ i := by omega
      generalize (hb (l.drop i)).toNat = n at *
      have HS : Hid (w.heap.size < wr.heap.size) := by have := hkb.size; simp at this; show _ < _; omega
      have HE : Hid (i = a + cnt isN (l.drop a)) := hend
      clear HI hk hkb hrd hcn c HW qz hend h0 hex
      go_wp2_with fail
      refine hbyte.mono ?_
      rintro e w1 ⟨rfl, rfl⟩
      go_wp2_with fail
      refine hdig.mono ?_
      rintro e w1 ⟨rfl, rfl⟩
      go_wp2_with fail
      generalize bs l = s at *
      go_region_held3 (fun w' => w'.cell? ⟨b, 0, none⟩ = some (.string s) ∧ w'.cell? ⟨b, 1, none⟩ = some (.int .i64 (i : Int))) (go_keep) (fail)
      have HF : Hid (∀ w2, w2 = (w1.alloc (.cells #[.int .i64 0, .int .i64 a, .string (s.extract a i), .int .u64 0] 31)).drew → Below w.heap.size w1 w2) := by
        rintro w2 rfl
        exact ((Below.refl _ _).alloc (Nat.le_of_lt HS.out) _).drew
      cases hK : isKey ((l.drop a).take (cnt isN (l.drop a))) with
      | true =>
        have HR : Hid (nameW (l.drop a) = .inr ⟨1, cnt isN (l.drop a), (l.drop a).take (cnt isN (l.drop a)), 0⟩) := by
          show nameW _ = _; unfold nameW; rw [hK]; rfl
        rw [hK] at hkey
        go_wp2_with fail
        refine (hkey _).mono ?_
        rintro e w2 ⟨rfl, hw2⟩
        have hb2 := HF.out w2 hw2
        obtain ⟨r0, r1, r2, r3, rz⟩ := made (b := b) (w' := w2) hbr (by rw [hw2]; exact Kb.drew _ _)
        have rz0 := rz 0
        have hb3 : Below w1.heap.size w1 w2 := by rw [hw2]; exact ((Below.refl _ _).alloc (Nat.le_refl _) _).drew
        rw [← hb3.cell (p := ⟨w.heap.size, 0, none⟩) HS.out] at q0
        rw [← hb3.cell (p := ⟨w.heap.size, 1, none⟩) HS.out] at q1
        rw [← hb3.cell (p := ⟨w.heap.size, 2, none⟩) HS.out] at q2
        rw [← hb3.cell (p := ⟨w.heap.size, 3, none⟩) HS.out] at q3
        rw [← hb3.frozen (p := ⟨w.heap.size, 0, none⟩) HS.out] at qz0
        rw [← hb3.frozen (p := ⟨w.heap.size, 1, none⟩) HS.out] at qz1
        rw [← hb3.frozen (p := ⟨w.heap.size, 2, none⟩) HS.out] at qz2
        rw [← hb3.frozen (p := ⟨w.heap.size, 3, none⟩) HS.out] at qz3
        have hne3 : w.heap.size ≠ w1.heap.size := Nat.ne_of_lt HS.out
        have HB2 : Hid (Below w.heap.size w1 w2) := hb2
        clear hw2 hb2 hb3 rz HF hkey hK
        generalize hg1 : w1.heap.size = g1 at *
        generalize hg0 : w.heap.size = g0 at *
        go_wp2
        refine bodyPost_ret (v := .agg #[.int .i64 1, .int .i64 a, .string (s.extract a i), .int .u64 0]) (by simp [results, Tryd.results23, go_sem, q0, q1, q2, q3]) rfl ?_
        rw [HR.out]
        refine ⟨?_, HQ.out _ (set4 (HB2.out.setCell (p := ⟨g1, 0, none⟩) (Nat.le_of_lt HS.out) _) (Nat.le_refl _) _ _ _ _)⟩
        rw [← HX.out]; rfl
      | false =>
        have HR : Hid (nameW (l.drop a) = .inr ⟨0, cnt isN (l.drop a), (l.drop a).take (cnt isN (l.drop a)), 0⟩) := by
          show nameW _ = _; unfold nameW; rw [hK]; rfl
        rw [hK] at hkey
        go_wp2_with fail
        refine (hkey _).mono ?_
        rintro e w2 ⟨rfl, hw2⟩
        have hb2 := HF.out w2 hw2
        obtain ⟨r0, r1, r2, r3, rz⟩ := made (b := b) (w' := w2) hbr (by rw [hw2]; exact Kb.drew _ _)
        have hb3 : Below w1.heap.size w1 w2 := by rw [hw2]; exact ((Below.refl _ _).alloc (Nat.le_refl _) _).drew
        rw [← hb3.cell (p := ⟨w.heap.size, 0, none⟩) HS.out] at q0
        rw [← hb3.cell (p := ⟨w.heap.size, 1, none⟩) HS.out] at q1
        rw [← hb3.cell (p := ⟨w.heap.size, 2, none⟩) HS.out] at q2
        rw [← hb3.cell (p := ⟨w.heap.size, 3, none⟩) HS.out] at q3
        rw [← hb3.frozen (p := ⟨w.heap.size, 0, none⟩) HS.out] at qz0
        rw [← hb3.frozen (p := ⟨w.heap.size, 1, none⟩) HS.out] at qz1
        rw [← hb3.frozen (p := ⟨w.heap.size, 2, none⟩) HS.out] at qz2
        rw [← hb3.frozen (p := ⟨w.heap.size, 3, none⟩) HS.out] at qz3
        have HB2 : Hid (Below w.heap.size w1 w2) := hb2
        clear hw2 hb2 hb3 rz HF hkey hK
        generalize hg1 : w1.heap.size = g1 at *
        generalize hg0 : w.heap.size = g0 at *
        go_wp2
        refine bodyPost_ret (v := .agg #[.int .i64 0, .int .i64 a, .string (s.extract a i), .int .u64 0]) (by simp [results, Tryd.results23, go_sem, q0, q1, q2, q3]) rfl ?_
        rw [HR.out]
        refine ⟨?_, HQ.out _ (set4 HB2.out (Nat.le_refl _) _ _ _ _)⟩
        rw [← HX.out]; rfl

end Go.Proofs.YtfhoimfjfbbhaaaDoor

/-
  A region that draws its order, whose callees may make memory of their own: walked once, in the order of the text, in the class of worlds below which nothing has turned.
-/
namespace Go.Proofs.YtfhoimfjfbbhaaaDoor
set_option maxRecDepth 100000
open Go.RowKit

/-- A world in which all that was there is as it was. -/
structure BelowOf (w : World) where
  u : World
  h : Below w.heap.size w u

theorem wp_region_below {P : Program} {id : Nat} {Q : Exit → Act → World → Prop} {a : Act} {w : World} {l : List Oper} (hm : P.follows .mixedOrders = true) (hB : Region.lexB .any l.toArray = true)
    (h : wpQuiet P l.toArray (fun w' => ∃ p : BelowOf w, w' = p.u) (fun a' => ∀ w', (∃ p : BelowOf w, w' = p.u) → Q .normal a' w') l a) : (Code.region id l.toArray true).wp P Q a w :=
  wp_region_quiet (C := fun w' => ∃ p : BelowOf w, w' = p.u) hm hB ⟨⟨w.drewN 1, below_drewN (Below.refl _ _) 1⟩, rfl⟩ (by simpa using h)

/-- A callee's contract, met in a world of the class. -/
theorem below_of {P : Program} {f : FuncId} {args : Array Value} {w : World} {p : BelowOf w} {v : Value}
    (h : Calls P f args p.u fun e w' => e = .returned v ∧ Below p.u.heap.size p.u w') : Calls P f args p.u fun e w'' => e = .returned v ∧ ∃ p' : BelowOf w, w'' = p'.u :=
  h.mono fun _ w' ⟨he, hb⟩ => ⟨he, ⟨⟨w', p.h.trans (hb.mono p.h.size)⟩, rfl⟩⟩

end Go.Proofs.YtfhoimfjfbbhaaaDoor
