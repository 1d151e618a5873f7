/-
  Sizing and copying of one state of a run, copying of one saying.
-/
import Derived.Test.YtkongeofapbbladXlh
namespace Go.Proofs.Ytkongeofapbblad
open Go.RowKit

set_option maxRecDepth 100000 in
set_option maxHeartbeats 4000000 in
theorem szSt_any (x : ByteArray) (now lf left : Int) (w : World) (hx : x.size ≤ maxLen) (h0 : 0 ≤ left) (h1 : left ≤ 1048576) :
    Calls Try.prog 5 #[.agg #[.string x, .int .i64 now, .int .i64 lf], .int .i64 left] w fun e w' => ∃ y, e = .returned (.int .i64 y) ∧ (0 ≤ y → (x.size : Int) ≤ left) ∧ Below w.heap.size w w' := by
  unfold maxLen at hx
  have k0 : Hid (Below w.heap.size w (w.alloc (.cells #[.string x, .int .i64 now, .int .i64 lf] 24))) := (Below.refl _ _).alloc (Nat.le_refl _) _
  by_cases c : left - (x.size : Int) < 0
  · go_enter Try.func5, Try.ntmps5
    go_wp2
    go_ret
    exact ⟨_, rfl, fun h => by omega, k0.out⟩
  · go_enter Try.func5, Try.ntmps5
    go_wp2
    go_ret
    exact ⟨_, rfl, fun h => by omega, k0.out⟩

set_option maxRecDepth 100000 in
set_option maxHeartbeats 4000000 in
theorem toSt_any (x : ByteArray) (now lf : Int) (w : World) :
    Calls Try.prog 8 #[.agg #[.string x, .int .i64 now, .int .i64 lf]] w fun e w' => e = .returned (.agg #[.string x, .int .i64 now, .int .i64 lf]) ∧ Below w.heap.size w w' := by
  go_enter Try.func8, Try.ntmps8
  go_wp2
  exact bodyPost_ret (v := .agg #[.string x, .int .i64 now, .int .i64 lf]) (by simp [results, Try.results8, go_sem]) rfl ⟨rfl, by repeat (first | exact Below.refl _ _ | refine Below.alloc ?_ (by simp; try omega) _)⟩

set_option maxRecDepth 100000 in
set_option maxHeartbeats 4000000 in
theorem toSy_any (t : Int) (well : Bool) (w : World) :
    Calls Try.prog 9 #[.agg #[.int .i64 t, .bool well]] w fun e w' => e = .returned (.agg #[.int .i64 t, .bool well]) ∧ Below w.heap.size w w' := by
  go_enter Try.func9, Try.ntmps9
  go_wp2
  exact bodyPost_ret (v := .agg #[.int .i64 t, .bool well]) (by simp [results, Try.results9, go_sem]) rfl ⟨rfl, by repeat (first | exact Below.refl _ _ | refine Below.alloc ?_ (by simp; try omega) _)⟩

end Go.Proofs.Ytkongeofapbblad
