/-
  Several texts in one.
-/
import Derived.Test.YtkongeofapbblaaM2
import Derived.Test.YtkongeofapbblaaM0
/-
  The model's runs of a recipe: how a run begins.
-/
namespace Go.Proofs.Ytkongeofapbblaa
open Go.RowKit

/-- The state at the beginning, nothing if the recipe is not ok. -/
noncomputable def begS (r : List DRecPhase) : ByteArray × Int × Int := if recB r = true then ((r[0]?.getD default).1, 0, bndF 12 r (r[0]?.getD default).1) else (⟨#[]⟩, 0, 0)

set_option maxRecDepth 100000 in
set_option maxHeartbeats 4000000 in
theorem begX_any (S : Nat → Prop) (r : List DRecPhase) (v : Value) (w : World) (h : AtL S w r v) (hS : ∀ b, S b → b < w.heap.size) :
    Calls Try.prog 22 #[v] w fun e w' => e = .returned (.agg #[.string (begS r).1, .int .i64 (begS r).2.1, .int .i64 (begS r).2.2]) ∧ Below w.heap.size w w' := by
  have H : Hid (∀ w', Below w.heap.size w w' → AtL S w' r v ∧ ∀ b, S b → b < w'.heap.size) := fun w' hb => ⟨h.same (Same.of_below hb hS), fun b hb' => Nat.lt_of_lt_of_le (hS b hb') hb.size⟩
  have b0 : Hid (Below w.heap.size w (w.alloc (.cells #[.string ⟨#[]⟩, .int .i64 0, .int .i64 0] 28))) := (Below.refl _ _).alloc (Nat.le_refl _) _
  have OK : Hid (Calls Try.prog 8 #[v] (w.alloc (.cells #[.string ⟨#[]⟩, .int .i64 0, .int .i64 0] 28)) fun e w' => e = .returned (.bool (recB r)) ∧ Below (w.alloc (.cells #[.string ⟨#[]⟩, .int .i64 0, .int .i64 0] 28)).heap.size (w.alloc (.cells #[.string ⟨#[]⟩, .int .i64 0, .int .i64 0] 28)) w') := okX_any S r v _ (H.out _ b0.out).1 (H.out _ b0.out).2
  cases c : recB r
  · have hr : begS r = (⟨#[]⟩, 0, 0) := by simp [begS, c]
    rw [hr]
    rw [c] at OK
    go_enter Try.func22, Try.ntmps22
    go_wp2_with fail
    refine OK.out.mono ?_; rintro e u ⟨rfl, hb⟩
    have bU : Below w.heap.size w u := b0.out.trans (hb.mono b0.out.size)
    have row : u.heap[w.heap.size]? = some (.cells #[.string ⟨#[]⟩, .int .i64 0, .int .i64 0] 28 (0, 0)) := (hb.block _ (by simp)).trans (heap_alloc_new w _)
    obtain ⟨p0, g0⟩ := cell_row row 0 _ rfl
    obtain ⟨p1, g1⟩ := cell_row row 1 _ rfl
    obtain ⟨p2, g2⟩ := cell_row row 2 _ rfl
    have fin := set_row (set_row (set_row row 0 (.string ⟨#[]⟩)) 1 (.int .i64 0)) 2 (.int .i64 0)
    have f0 := (cell_row fin 0 (.string ⟨#[]⟩) rfl).1
    have f1 := (cell_row fin 1 (.int .i64 0) rfl).1
    have f2 := (cell_row fin 2 (.int .i64 0) rfl).1
    have bF := (((bU.setCell (p := ⟨w.heap.size, 0, none⟩) (by show w.heap.size ≤ w.heap.size; omega) (.string ⟨#[]⟩)).setCell (p := ⟨w.heap.size, 1, none⟩) (by show w.heap.size ≤ w.heap.size; omega) (.int .i64 0)).setCell (p := ⟨w.heap.size, 2, none⟩) (by show w.heap.size ≤ w.heap.size; omega) (.int .i64 0))
    clear row fin
    go_wp2_with fail
    exact bodyPost_ret (v := .agg #[.string ⟨#[]⟩, .int .i64 0, .int .i64 0]) (by simp [results, Try.results22, go_sem, f0, f1, f2]) rfl ⟨rfl, bF⟩
  · have hR := rec_iff.1 c
    have hk : 0 < r.length := hR.1.1
    obtain ⟨f, ef⟩ : ∃ f, r[0] = f := ⟨_, rfl⟩
    have hr : begS r = (f.1, 0, bndF 12 r f.1) := by simp [begS, c, List.getElem?_eq_getElem hk, ef]
    rw [hr]
    rw [c] at OK
    have ST : Hid (∀ (y : ByteArray) (m : Int) (u : World), Below w.heap.size w u → Calls Try.prog 54 #[v, .string y, .int .i64 m] u fun e w' => e = .returned (.agg #[.string y, .int .i64 m, .int .i64 (bndF 12 r y)]) ∧ Below u.heap.size u w') := fun y m u hu => stX_any S r hR v y m u (H.out u hu).1 (H.out u hu).2
    obtain ⟨oa, cap, ev, hx⟩ := id h
    subst ev
    obtain ⟨b, off, rfl, hbS, cc, hcell, hat⟩ := hx.2 0 hk
    clear hx h
    have hb' := hS b hbS
    rw [width_DRecPhase] at hcell
    rw [at_DRecPhase, ef] at hat
    obtain ⟨⟨q0, _⟩, _⟩ := hat
    obtain ⟨nl, en⟩ : ∃ n, r.length = n := ⟨_, rfl⟩
    rw [en] at OK ST hk
    rw [en]
    have hnl : nl ≤ 12 := by have := hR.1; omega
    have E : Hid (∀ u, Below w.heap.size w u → u.cell? ⟨b, off, none⟩ = some (.string f.1)) := fun u hu => ((hu.cell hb').trans (by simpa using hcell 0 (by omega))).trans (by rw [q0])
    clear hcell q0 en ef hR H
    go_enter Try.func22, Try.ntmps22
    go_wp2_with fail
    refine OK.out.mono ?_; rintro e u ⟨rfl, hb⟩
    have bU : Hid (Below w.heap.size w u) := b0.out.trans (hb.mono b0.out.size)
    have rU : Hid (u.heap[w.heap.size]? = some (.cells #[.string ⟨#[]⟩, .int .i64 0, .int .i64 0] 28 (0, 0))) := (hb.block _ (by simp)).trans (heap_alloc_new w _)
    have sU : w.heap.size + 1 ≤ u.heap.size := by have := hb.size; simpa using this
    have x0 := E.out u bU.out
    clear hb
    go_wp2_with fail
    refine (ST.out f.1 0 u bU.out).mono ?_; rintro e u2 ⟨rfl, hb2⟩
    have bU2 : Below w.heap.size w u2 := bU.out.trans (hb2.mono bU.out.size)
    have row : u2.heap[w.heap.size]? = some (.cells #[.string ⟨#[]⟩, .int .i64 0, .int .i64 0] 28 (0, 0)) := (hb2.block _ (by omega)).trans rU.out
    obtain ⟨p0, g0⟩ := cell_row row 0 _ rfl
    obtain ⟨p1, g1⟩ := cell_row row 1 _ rfl
    obtain ⟨p2, g2⟩ := cell_row row 2 _ rfl
    have fin := set_row (set_row (set_row row 0 (.string f.1)) 1 (.int .i64 0)) 2 (.int .i64 (bndF 12 r f.1))
    have f0 := (cell_row fin 0 (.string f.1) rfl).1
    have f1 := (cell_row fin 1 (.int .i64 0) rfl).1
    have f2 := (cell_row fin 2 (.int .i64 (bndF 12 r f.1)) rfl).1
    have bF := (((bU2.setCell (p := ⟨w.heap.size, 0, none⟩) (by show w.heap.size ≤ w.heap.size; omega) (.string f.1)).setCell (p := ⟨w.heap.size, 1, none⟩) (by show w.heap.size ≤ w.heap.size; omega) (.int .i64 0)).setCell (p := ⟨w.heap.size, 2, none⟩) (by show w.heap.size ≤ w.heap.size; omega) (.int .i64 (bndF 12 r f.1)))
    clear row fin
    go_wp2_with fail
    exact bodyPost_ret (v := .agg #[.string f.1, .int .i64 0, .int .i64 (bndF 12 r f.1)]) (by simp [results, Try.results22, go_sem, f0, f1, f2]) rfl ⟨rfl, bF⟩

end Go.Proofs.Ytkongeofapbblaa

/-
  Types of the laws as data.
-/
namespace Go.Proofs.Ytkongeofapbblaa
open Go.RowKit
abbrev DRecSay := Int × Bool
theorem width_DRecSay : Lay.width DRecSay = 2 := rfl
theorem at_DRecSay {S : Nat → Prop} {w : World} {a : DRecSay} {c : Nat → Value} : Lay.At S w a c ↔ (c 0 = .int .i64 a.1 ∧ -9223372036854775808 ≤ a.1 ∧ a.1 ≤ 9223372036854775807) ∧ c 1 = .bool a.2 := Iff.rfl
theorem tot_DRecSay {a : DRecSay} : Lay.tot a = 0 + (0) := rfl

end Go.Proofs.Ytkongeofapbblaa
