/-
  Several texts in one.
-/
import Derived.Test.YtkongeofapbblaaXpb
import Derived.Test.YtkongeofapbblaaM2
import Derived.Test.YtkongeofapbblaaM26
import Derived.Test.YtkongeofapbblaaM9
/-
  The program's runs of a recipe: where a run stands, how it begins.
-/
namespace Go.Proofs.Ytkongeofapbblaa
open Go.RowKit

theorem name_le8 {x : ByteArray} (h : nameB x = true) : x.size ≤ 8 := by
  simp only [nameB, Bool.and_eq_true, decide_eq_true_eq] at h
  exact h.1.2
theorem ph_goes {p : DRecPhase} (h : phaseB p = true) : p.2.2.2.2.2.2.1.size ≤ 8 ∧ p.2.2.2.2.2.2.2.size ≤ 8 := by
  simp only [phaseB, Bool.and_eq_true] at h
  exact ⟨name_le8 h.1.2, name_le8 h.2⟩

set_option maxRecDepth 100000 in
set_option maxHeartbeats 4000000 in
theorem stateI_any (S : Nat → Prop) (r : List DRecPhase) (hR : recB r = true) (v : Value) (x : ByteArray) (now : Int) (w : World) (h : AtL S w r v) (hS : ∀ b, S b → b < w.heap.size) (ht : totL r ≤ 1048576) (hx : x.size ≤ 1048576) :
    Calls Try.prog 38 #[v, .string x, .int .i64 now] w fun e w' => e = .returned (.agg #[.string x, .int .i64 now, .int .i64 (bndF 12 r x)]) ∧ Below w.heap.size w w' := by
  have H : Hid (∀ w', Below w.heap.size w w' → AtL S w' r v ∧ ∀ b, S b → b < w'.heap.size) := fun w' hb => ⟨h.same (Same.of_below hb hS), fun b hb' => Nat.lt_of_lt_of_le (hS b hb') hb.size⟩
  have b0 : Hid (Below w.heap.size w (w.alloc (.cells #[.string ⟨#[]⟩, .int .i64 0, .int .i64 0] 28))) := (Below.refl _ _).alloc (Nat.le_refl _) _
  obtain ⟨R, hRR⟩ : ∃ R, R = bndF 12 r x := ⟨_, rfl⟩
  have CB : Hid (∀ u, Below w.heap.size w u → Calls Try.prog 11 #[v, .string x] u fun e w' => e = .returned (.int .i64 R) ∧ Below u.heap.size u w') := fun u hu => by
    have := boundI_any S r v x u (H.out u hu).1 (H.out u hu).2 ht
    rw [if_pos hR, ← hRR] at this
    exact this
  rw [← hRR]
  clear hRR h H
  go_enter Try.func38, Try.ntmps38
  go_wp2_with fail
  refine (clones_any x _ hx).mono ?_; rintro e w1 ⟨rfl, hb1⟩
  have B1 : Hid (Below w.heap.size w w1) := b0.out.trans (hb1.mono b0.out.size)
  have R1 : Hid (w1.heap[w.heap.size]? = some (.cells #[.string ⟨#[]⟩, .int .i64 0, .int .i64 0] 28 (0, 0))) := (hb1.block _ (by simp)).trans (heap_alloc_new w _)
  have z1 : w.heap.size + 1 ≤ w1.heap.size := by have := hb1.size; simpa using this
  clear hb1
  go_wp2_with fail
  refine (CB.out w1 B1.out).mono ?_; rintro e w2 ⟨rfl, hb2⟩
  have row : w2.heap[w.heap.size]? = some (.cells #[.string ⟨#[]⟩, .int .i64 0, .int .i64 0] 28 (0, 0)) := (hb2.block _ (by omega)).trans R1.out
  have B2 : Below w.heap.size w w2 := B1.out.trans (hb2.mono B1.out.size)
  clear hb2
  obtain ⟨p0, g0⟩ := cell_row row 0 _ rfl
  obtain ⟨p1, g1⟩ := cell_row row 1 _ rfl
  obtain ⟨p2, g2⟩ := cell_row row 2 _ rfl
  have fin := set_row (set_row (set_row row 0 (.string x)) 1 (.int .i64 now)) 2 (.int .i64 R)
  have f0 := (cell_row fin 0 (.string x) rfl).1
  have f1 := (cell_row fin 1 (.int .i64 now) rfl).1
  have f2 := (cell_row fin 2 (.int .i64 R) rfl).1
  have bF := (((B2.setCell (p := ⟨w.heap.size, 0, none⟩) (by show w.heap.size ≤ w.heap.size; omega) (.string x)).setCell (p := ⟨w.heap.size, 1, none⟩) (by show w.heap.size ≤ w.heap.size; omega) (.int .i64 now)).setCell (p := ⟨w.heap.size, 2, none⟩) (by show w.heap.size ≤ w.heap.size; omega) (.int .i64 R))
  clear row fin
  go_wp2_with fail
  exact bodyPost_ret (v := .agg #[.string x, .int .i64 now, .int .i64 R]) (by simp [results, Try.results38, go_sem, f0, f1, f2]) rfl ⟨rfl, bF⟩

end Go.Proofs.Ytkongeofapbblaa

/-
  The program's runs of a recipe: how a run begins.
-/
namespace Go.Proofs.Ytkongeofapbblaa
open Go.RowKit

set_option maxRecDepth 100000 in
set_option maxHeartbeats 4000000 in
theorem begI_any (S : Nat → Prop) (r : List DRecPhase) (v : Value) (w : World) (h : AtL S w r v) (hS : ∀ b, S b → b < w.heap.size) (ht : totL r ≤ 1048576) :
    Calls Try.prog 12 #[v] w fun e w' => e = .returned (.agg #[.string (begS r).1, .int .i64 (begS r).2.1, .int .i64 (begS r).2.2]) ∧ Below w.heap.size w w' := by
  have H : Hid (∀ w', Below w.heap.size w w' → AtL S w' r v ∧ ∀ b, S b → b < w'.heap.size) := fun w' hb => ⟨h.same (Same.of_below hb hS), fun b hb' => Nat.lt_of_lt_of_le (hS b hb') hb.size⟩
  have b0 : Hid (Below w.heap.size w (w.alloc (.cells #[.string ⟨#[]⟩, .int .i64 0, .int .i64 0] 28))) := (Below.refl _ _).alloc (Nat.le_refl _) _
  have OK : Hid (Calls Try.prog 28 #[v] (w.alloc (.cells #[.string ⟨#[]⟩, .int .i64 0, .int .i64 0] 28)) fun e w' => e = .returned (.bool (recB r)) ∧ Below (w.alloc (.cells #[.string ⟨#[]⟩, .int .i64 0, .int .i64 0] 28)).heap.size (w.alloc (.cells #[.string ⟨#[]⟩, .int .i64 0, .int .i64 0] 28)) w') := okI_any S r v _ (H.out _ b0.out).1 (H.out _ b0.out).2 ht
  cases c : recB r
  · have hr : begS r = (⟨#[]⟩, 0, 0) := by simp [begS, c]
    rw [hr]
    rw [c] at OK
    go_enter Try.func12, Try.ntmps12
    go_wp2_with fail
    refine OK.out.mono ?_; rintro e u ⟨rfl, hb⟩
    have bU : Below w.heap.size w u := b0.out.trans (hb.mono b0.out.size)
    have row : u.heap[w.heap.size]? = some (.cells #[.string ⟨#[]⟩, .int .i64 0, .int .i64 0] 28 (0, 0)) := (hb.block _ (by simp)).trans (heap_alloc_new w _)
    obtain ⟨p0, g0⟩ := cell_row row 0 _ rfl
    obtain ⟨p1, g1⟩ := cell_row row 1 _ rfl
    obtain ⟨p2, g2⟩ := cell_row row 2 _ rfl
    have fin := set_row (set_row (set_row row 0 (.string ⟨#[]⟩)) 1 (.int .i64 0)) 2 (.int .i64 0)
    have f0 := (cell_row fin 0 (.string ⟨#[]⟩) rfl).1
    have f1 := (cell_row fin 1 (.int .i64 0) rfl).1
    have f2 := (cell_row fin 2 (.int .i64 0) rfl).1
    have bF := (((bU.setCell (p := ⟨w.heap.size, 0, none⟩) (by show w.heap.size ≤ w.heap.size; omega) (.string ⟨#[]⟩)).setCell (p := ⟨w.heap.size, 1, none⟩) (by show w.heap.size ≤ w.heap.size; omega) (.int .i64 0)).setCell (p := ⟨w.heap.size, 2, none⟩) (by show w.heap.size ≤ w.heap.size; omega) (.int .i64 0))
    clear row fin
    go_wp2_with fail
    exact bodyPost_ret (v := .agg #[.string ⟨#[]⟩, .int .i64 0, .int .i64 0]) (by simp [results, Try.results12, go_sem, f0, f1, f2]) rfl ⟨rfl, bF⟩
  · have hR := rec_iff.1 c
    have hk : 0 < r.length := hR.1.1
    obtain ⟨f, ef⟩ : ∃ f, r[0] = f := ⟨_, rfl⟩
    have hr : begS r = (f.1, 0, bndF 12 r f.1) := by simp [begS, c, List.getElem?_eq_getElem hk, ef]
    rw [hr]
    rw [c] at OK
    have hfs : f.1.size ≤ 1048576 := by have := name_le8 (ph_name (step_of hR hk).1).1; rw [ef] at this; omega
    have ST : Hid (∀ (u : World), Below w.heap.size w u → Calls Try.prog 38 #[v, .string f.1, .int .i64 0] u fun e w' => e = .returned (.agg #[.string f.1, .int .i64 0, .int .i64 (bndF 12 r f.1)]) ∧ Below u.heap.size u w') := fun u hu => stateI_any S r c v f.1 0 u (H.out u hu).1 (H.out u hu).2 ht hfs
    obtain ⟨oa, cap, ev, hx⟩ := id h
    subst ev
    obtain ⟨b, off, rfl, hbS, cc, hcell, hat⟩ := hx.2 0 hk
    clear hx h
    have hb' := hS b hbS
    rw [width_DRecPhase] at hcell
    rw [at_DRecPhase, ef] at hat
    obtain ⟨⟨q0, _⟩, _⟩ := hat
    obtain ⟨nl, en⟩ : ∃ n, r.length = n := ⟨_, rfl⟩
    rw [en] at OK ST hk
    rw [en]
    have hnl : nl ≤ 12 := by have := hR.1; omega
    have E : Hid (∀ u, Below w.heap.size w u → u.cell? ⟨b, off, none⟩ = some (.string f.1)) := fun u hu => ((hu.cell hb').trans (by simpa using hcell 0 (by omega))).trans (by rw [q0])
    clear hcell q0 en ef hR H
    go_enter Try.func12, Try.ntmps12
    go_wp2_with fail
    refine OK.out.mono ?_; rintro e u ⟨rfl, hb⟩
    have bU : Hid (Below w.heap.size w u) := b0.out.trans (hb.mono b0.out.size)
    have rU : Hid (u.heap[w.heap.size]? = some (.cells #[.string ⟨#[]⟩, .int .i64 0, .int .i64 0] 28 (0, 0))) := (hb.block _ (by simp)).trans (heap_alloc_new w _)
    have sU : w.heap.size + 1 ≤ u.heap.size := by have := hb.size; simpa using this
    have x0 := E.out u bU.out
    clear hb
    go_wp2_with fail
    refine (ST.out u bU.out).mono ?_; rintro e u2 ⟨rfl, hb2⟩
    have bU2 : Below w.heap.size w u2 := bU.out.trans (hb2.mono bU.out.size)
    have row : u2.heap[w.heap.size]? = some (.cells #[.string ⟨#[]⟩, .int .i64 0, .int .i64 0] 28 (0, 0)) := (hb2.block _ (by omega)).trans rU.out
    obtain ⟨p0, g0⟩ := cell_row row 0 _ rfl
    obtain ⟨p1, g1⟩ := cell_row row 1 _ rfl
    obtain ⟨p2, g2⟩ := cell_row row 2 _ rfl
    have fin := set_row (set_row (set_row row 0 (.string f.1)) 1 (.int .i64 0)) 2 (.int .i64 (bndF 12 r f.1))
    have f0 := (cell_row fin 0 (.string f.1) rfl).1
    have f1 := (cell_row fin 1 (.int .i64 0) rfl).1
    have f2 := (cell_row fin 2 (.int .i64 (bndF 12 r f.1)) rfl).1
    have bF := (((bU2.setCell (p := ⟨w.heap.size, 0, none⟩) (by show w.heap.size ≤ w.heap.size; omega) (.string f.1)).setCell (p := ⟨w.heap.size, 1, none⟩) (by show w.heap.size ≤ w.heap.size; omega) (.int .i64 0)).setCell (p := ⟨w.heap.size, 2, none⟩) (by show w.heap.size ≤ w.heap.size; omega) (.int .i64 (bndF 12 r f.1)))
    clear row fin
    go_wp2_with fail
    exact bodyPost_ret (v := .agg #[.string f.1, .int .i64 0, .int .i64 (bndF 12 r f.1)]) (by simp [results, Try.results12, go_sem, f0, f1, f2]) rfl ⟨rfl, bF⟩

end Go.Proofs.Ytkongeofapbblaa
