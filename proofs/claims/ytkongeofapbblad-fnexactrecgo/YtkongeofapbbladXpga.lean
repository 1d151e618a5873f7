/-
  The program's runs of a recipe: where a run stands, how it begins.
-/
import Derived.Test.YtkongeofapbbladXpb
import Derived.Test.YtkongeofapbbladXqb
import Derived.Test.YtkongeofapbbladGc
namespace Go.Proofs.Ytkongeofapbblad
open Go.RowKit

theorem name_le {x : ByteArray} (h : nameB x = true) : x.size ≤ 8 := by
  simp only [nameB, Bool.and_eq_true, decide_eq_true_eq] at h
  exact h.1.2
theorem ph_goes {p : DRecPhase} (h : phaseB p = true) : p.2.2.2.2.2.2.1.size ≤ 8 ∧ p.2.2.2.2.2.2.2.size ≤ 8 := by
  simp only [phaseB, Bool.and_eq_true] at h
  exact ⟨name_le h.1.2, name_le h.2⟩

set_option maxRecDepth 100000 in
set_option maxHeartbeats 4000000 in
theorem stateI_any (S : Nat → Prop) (r : List DRecPhase) (hR : recB r = true) (v : Value) (x : ByteArray) (now : Int) (w : World) (h : AtL S w r v) (hS : ∀ b, S b → b < w.heap.size) (ht : totL r ≤ 1048576) (hx : x.size ≤ 1048576) :
    Calls Try.prog 23 #[v, .string x, .int .i64 now] w fun e w' => e = .returned (.agg #[.string x, .int .i64 now, .int .i64 (bndF 12 r x)]) ∧ Below w.heap.size w w' := by
  have H : Hid (∀ w', Below w.heap.size w w' → AtL S w' r v ∧ ∀ b, S b → b < w'.heap.size) := fun w' hb => ⟨h.same (Same.of_below hb hS), fun b hb' => Nat.lt_of_lt_of_le (hS b hb') hb.size⟩
  have b0 : Hid (Below w.heap.size w (w.alloc (.cells #[.string ⟨#[]⟩, .int .i64 0, .int .i64 0] 29))) := (Below.refl _ _).alloc (Nat.le_refl _) _
  obtain ⟨R, hRR⟩ : ∃ R, R = bndF 12 r x := ⟨_, rfl⟩
  have CB : Hid (∀ u, Below w.heap.size w u → Calls Try.prog 35 #[v, .string x] u fun e w' => e = .returned (.int .i64 R) ∧ Below u.heap.size u w') := fun u hu => by
    have := boundI_any S r v x u (H.out u hu).1 (H.out u hu).2 ht
    rw [if_pos hR, ← hRR] at this
    exact this
  rw [← hRR]
  clear hRR h H
  go_enter Try.func23, Try.ntmps23
  go_wp2_with fail
  refine (clones_any x _ hx).mono ?_; rintro e w1 ⟨rfl, hb1⟩
  have B1 : Hid (Below w.heap.size w w1) := b0.out.trans (hb1.mono b0.out.size)
  have R1 : Hid (w1.heap[w.heap.size]? = some (.cells #[.string ⟨#[]⟩, .int .i64 0, .int .i64 0] 29 (0, 0))) := (hb1.block _ (by simp)).trans (heap_alloc_new w _)
  have z1 : w.heap.size + 1 ≤ w1.heap.size := by have := hb1.size; simpa using this
  clear hb1
  go_wp2_with fail
  refine (CB.out w1 B1.out).mono ?_; rintro e w2 ⟨rfl, hb2⟩
  have row : w2.heap[w.heap.size]? = some (.cells #[.string ⟨#[]⟩, .int .i64 0, .int .i64 0] 29 (0, 0)) := (hb2.block _ (by omega)).trans R1.out
  have B2 : Below w.heap.size w w2 := B1.out.trans (hb2.mono B1.out.size)
  clear hb2
  obtain ⟨p0, g0⟩ := cell_row row 0 _ rfl
  obtain ⟨p1, g1⟩ := cell_row row 1 _ rfl
  obtain ⟨p2, g2⟩ := cell_row row 2 _ rfl
  have fin := set_row (set_row (set_row row 0 (.string x)) 1 (.int .i64 now)) 2 (.int .i64 R)
  have f0 := (cell_row fin 0 (.string x) rfl).1
  have f1 := (cell_row fin 1 (.int .i64 now) rfl).1
  have f2 := (cell_row fin 2 (.int .i64 R) rfl).1
  have bF := (((B2.setCell (p := ⟨w.heap.size, 0, none⟩) (by show w.heap.size ≤ w.heap.size; omega) (.string x)).setCell (p := ⟨w.heap.size, 1, none⟩) (by show w.heap.size ≤ w.heap.size; omega) (.int .i64 now)).setCell (p := ⟨w.heap.size, 2, none⟩) (by show w.heap.size ≤ w.heap.size; omega) (.int .i64 R))
  clear row fin
  go_wp2_with fail
  exact bodyPost_ret (v := .agg #[.string x, .int .i64 now, .int .i64 R]) (by simp [results, Try.results23, go_sem, f0, f1, f2]) rfl ⟨rfl, bF⟩

end Go.Proofs.Ytkongeofapbblad
