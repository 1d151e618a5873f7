/-
  One digit, written: l43Dec, l55Dec below ten.
-/
import Derived.Test.YthgnhjkkfhfgmabZdd
import Derived.Lib.ItoaNum
namespace Go.Proofs.Ythgnhjkkfhfgmab
open Go.RowKit

theorem under135 : Try.prog.underlying 22 = some (.slice 5) := by kernel_rfl

theorem under5 : Try.prog.underlying 5 = some (.int .u8) := by kernel_rfl

theorem under9 : Try.prog.underlying 9 = some .string := by kernel_rfl

/-- One byte, made a text. -/
theorem conv_one (x : Int) (W : World) : (convert 22 9 (.slice (some ⟨W.heap.size, 0, none⟩) 1 1)).run Try.prog (W.alloc (.cells #[.int .u8 x] 5)) = .ok (.string ⟨#[UInt8.ofNat x.toNat]⟩) (W.alloc (.cells #[.int .u8 x] 5)) := by
  rw [run_convert_bytes_string _ 22 9 5 _ 1 1 under135 under5 under9]
  rw [run_bytesToString _ ⟨W.heap.size, 0, none⟩ 1 1 [x]]
  · rfl
  · exact run_loadCells_list _ ⟨W.heap.size, 0, none⟩ [.int .u8 x] (fun j v hj => by
      match j, hj with
      | 0, hj => simp at hj; subst hj; simp [Addr.add])

set_option maxRecDepth 100000 in
set_option maxHeartbeats 1000000 in
theorem dec1_any (j : Nat) (w : World) (h : j < 10) : Calls Try.prog 75 #[.int .i64 j] w fun e w' => ∃ s : ByteArray, e = .returned (.string s) ∧ s.size ≤ 4 ∧ Below w.heap.size w w' := by
  have hcv := conv_one
  have hj : (j : Int) < 10 := by omega
  go_enter Try.func75, Try.ntmps75
  go_wp2
  go_ret
  exact ⟨_, rfl, Nat.le_of_ble_eq_true rfl, (Below.refl _ _).alloc (Nat.le_refl _) _⟩
set_option maxRecDepth 100000 in
set_option maxHeartbeats 1000000 in
theorem dec5_any (j : Nat) (w : World) (h : j < 10) : Calls Try.prog 60 #[.int .i64 j] w fun e w' => ∃ s : ByteArray, e = .returned (.string s) ∧ s.size ≤ 4 ∧ Below w.heap.size w w' := by
  go_enter Try.func60, Try.ntmps60
  go_wp2_with fail
  refine (dec1_any j w h).mono ?_
  rintro e w1 ⟨s, rfl, hs, hb⟩
  go_wp2_with fail
  go_ret
  exact ⟨s, rfl, hs, hb⟩
end Go.Proofs.Ythgnhjkkfhfgmab
