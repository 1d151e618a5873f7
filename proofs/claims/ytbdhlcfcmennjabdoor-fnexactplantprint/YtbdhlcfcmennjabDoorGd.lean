/-
  A contract of the program's line of a place, cut into words: what a number looks like there is the library's own decimal.
-/
import Derived.Test.YtbdhlcfcmennjabDoorShelf
import Derived.Test.YtbdhlcfcmennjabDoorGb
import Derived.Lib.AppendIntMem
import Derived.Test.YtbdhlcfcmennjabDoorHq
namespace Go.Proofs.YtbdhlcfcmennjabDoor
open Go.RowKit

/-- The library's table of the powers of ten reads as its text lays it, whatever is done behind the memory's end. -/
def Tb (w : World) : Prop := Lib.TabBelow Tryd.prog w.heap.size w "internal/strconv.uint64pow10" .u64 Lib.pow10Tab
theorem Tb.kept {w w' : World} (h : Tb w) (hb : Below w.heap.size w w') : Tb w' := fun w'' h' => h w'' (hb.trans (h'.mono hb.size))

theorem itoa_any (n : Int) (w : World) (h0 : 0 ≤ n) (h1 : n ≤ 1000) (hT : Tb w) :
    Calls Tryd.prog 63 #[.int .i64 n] w fun e w' => e = .returned (.string (tx (Lib.decDigits n.toNat))) ∧ Below w.heap.size w w' := by
  have hi : Lib.itoa n = Lib.decDigits n.toNat := by rw [Lib.itoa, if_neg (by omega)]
  refine (Tryd.strconv_Itoa n (by omega) (by omega) w hT.here).mono ?_
  rintro e w' ⟨rfl, k, os, rfl⟩
  refine ⟨by rw [hi]; rfl, ?_⟩
  exact Lib.below_grow _ w (Nat.le_refl _) k os

/-- The words of a place's line. -/
def wP (x : ByteArray × Int × ByteArray) : List ByteArray :=
  if 0 < x.2.1 then [tx [118, 101, 115, 115, 101, 108], x.1, tx (Lib.decDigits x.2.1.toNat), x.2.2] else [tx [106, 111, 105, 110, 116], x.1, x.2.2]

/-- A list of texts in a block of its own. -/
def RowAt (w : World) (v : Value) (ws : List ByteArray) : Prop :=
  ∃ b, v = .slice (some ⟨b, 0, none⟩) ws.length ws.length ∧ w.heap[b]? = some (.cells (ws.map Value.string).toArray 9 (0, 0))

open Go.Sort in
set_option maxRecDepth 100000 in
set_option maxHeartbeats 1000000 in
theorem line_any (x : ByteArray × Int × ByteArray) (w : World) (h0 : 0 ≤ x.2.1) (h1 : x.2.1 ≤ 1000) (hT : Tb w) :
    Calls Tryd.prog 41 #[.agg #[.string x.1, .int .i64 x.2.1, .string x.2.2]] w fun e w' => ∃ v, e = .returned v ∧ RowAt w' v (wP x) ∧ Below w.heap.size w w' := by
  by_cases hc : 0 < x.2.1
  · have hne : (x.2.1 == 0) = false := by simp; omega
    have hw : wP x = [tx [118, 101, 115, 115, 101, 108], x.1, tx (Lib.decDigits x.2.1.toNat), x.2.2] := if_pos hc
    rw [hw]
    obtain ⟨W, hW⟩ : ∃ W, W = w.alloc (.cells #[.string x.1, .int .i64 x.2.1, .string x.2.2] 46) := ⟨_, rfl⟩
    have hb : Hid (Below w.heap.size w W) := by rw [hW]; exact (Below.refl _ _).alloc (Nat.le_refl _) _
    have hs : w.heap.size ≤ W.heap.size := hb.out.size
    have HT : Hid (∀ d os, Calls Tryd.prog 63 #[.int .i64 x.2.1] (grow (redrawn W d) os) fun e w'' => e = .returned (.string (tx (Lib.decDigits x.2.1.toNat))) ∧ ∃ p : Regrown, w'' = grow (redrawn W p.d) p.os) := fun d os =>
      Calls.regrown_of (itoa_any x.2.1 _ h0 h1 ((hT.kept hb.out).kept (below_regrown W d os)))
    have f0 : W.cell? ⟨w.heap.size, 0, none⟩ = some (.string x.1) := by rw [hW]; simp
    have f1 : W.cell? ⟨w.heap.size, 1, none⟩ = some (.int .i64 x.2.1) := by rw [hW]; simp
    have f2 : W.cell? ⟨w.heap.size, 2, none⟩ = some (.string x.2.2) := by rw [hW]; simp
    have q0 := fun d os => cell_regrown f0 d os
    have q1 := fun d os => cell_regrown f1 d os
    have q2 := fun d os => cell_regrown f2 d os
    clear hT
    go_enter Tryd.func41, Tryd.ntmps41
    go_wp2
    rw [← hW]
    clear hW
    refine wp_region_head_tail 7 (by kernel_rfl) (by kernel_rfl) ?_
    simp only [List.take_succ_cons, List.take_zero, List.drop_succ_cons, List.drop_zero]
    repeat (first | go_big_quiet_step (with_reducible exact HT.out _ _) | quiet_step (with_reducible exact HT.out _ _))
    refine wpQuiet_nil ?_
    intro _ hw'
    obtain ⟨⟨dq, osq⟩, hw''⟩ := hw'
    subst hw''
    have hb2 : Hid (Below w.heap.size w (grow (redrawn W dq) osq)) := hb.out.trans ((below_regrown _ dq osq).mono hs)
    have hs2 := hb2.out.size
    generalize grow (redrawn W dq) osq = u at hb2 hs2 ⊢
    go_wp2
    go_ret
    exact ⟨_, rfl, ⟨_, rfl, heap_alloc_new _ _⟩, hb2.out.alloc hs2 _⟩
  · have he : x.2.1 = 0 := by omega
    have hne : (x.2.1 == 0) = true := by simp [he]
    have hw : wP x = [tx [106, 111, 105, 110, 116], x.1, x.2.2] := if_neg hc
    rw [hw]
    go_enter Tryd.func41, Tryd.ntmps41
    go_wp2
    go_ret
    refine ⟨_, rfl, ⟨_, rfl, ?_⟩, ((Below.refl _ _).alloc (Nat.le_refl _) _).alloc (by simp) _⟩
    have e : (w.alloc (.cells #[.string x.1, .int .i64 0, .string x.2.2] 46)).heap.size = w.heap.size + 1 := by simp
    rw [← e]
    exact heap_alloc_new _ _

end Go.Proofs.YtbdhlcfcmennjabDoor
