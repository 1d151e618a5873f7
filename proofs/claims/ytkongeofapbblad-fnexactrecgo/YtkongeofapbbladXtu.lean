/-
  From a value of the law's type that can be read to its data in memory.
-/
import Derived.Test.YtkongeofapbbladXru
import Derived.Test.YtkongeofapbbladXta
import Derived.Deep.Slices
import Derived.Lib.SmallJoins
import Derived.ProofKit
namespace Go.Proofs.Ytkongeofapbblad
open Go.ChangeShapes Go.WideShapes Go.ChangeAt Go.RowKit

theorem cDRecState : Try.prog.cellsOf 24 = 3 := by kernel_rfl

section
variable {H : Type} {enc : TypeId × Value → H} {w : World} {base : Nat} {spare : Nat → Bool} {held : Bool}


theorem ofDRecState {n : Nat} {cs : List Value} {y : DataW H × List MemPlace} (hl : cs.length = 3) (hy : DataW.trod enc Try.prog w base spare held n 24 cs = some y) : ∃ (a : DRecState) (c : Nat → Value), Lay.At (fun b => b < w.heap.size) w a c ∧ ∀ j, j < Lay.width DRecState → cs[j]? = some (c j) := by
  match cs, hl with
  | [x0, x1, x2], _ =>
    obtain ⟨xs, m, _, _, _, hlen, hf⟩ := DataW.trod_struct Try.underlying24 hy
    have g0 : DataW.trod enc Try.prog w base spare held m 9 [x0] = xs[0]? := by simpa [cStr, cInt] using hf 0 _ rfl
    have g1 : DataW.trod enc Try.prog w base spare held m 3 [x1] = xs[1]? := by simpa [cStr, cInt] using hf 1 _ rfl
    have g2 : DataW.trod enc Try.prog w base spare held m 3 [x2] = xs[2]? := by simpa [cStr, cInt] using hf 2 _ rfl
    rw [List.getElem?_eq_getElem (by rw [hlen]; decide)] at g0 g1 g2
    obtain ⟨a0, e0, k0⟩ := ofStr g0
    obtain ⟨a1, e1, k1, m1⟩ := ofInt g1
    obtain ⟨a2, e2, k2, m2⟩ := ofInt g2
    simp at e0 e1 e2
    subst e0 e1 e2
    exact ⟨(a0, a1, a2), Go.Proofs.Ytkongeofapbblad.cs [.string a0, .int .i64 a1, .int .i64 a2], at_DRecState.2 ⟨⟨rfl, k0⟩, ⟨rfl, k1, m1⟩, ⟨rfl, k2, m2⟩⟩, fun j hj => by
      rw [width_DRecState] at hj
      rcases (show j = 0 ∨ j = 1 ∨ j = 2 by omega) with rfl | rfl | rfl <;> rfl⟩
set_option maxRecDepth 100000 in
theorem ofRecState {r : Reach} {b0 : Nat} {v : Value} {d : DataW H} {p : List MemPlace} (hv : Value.okWide Try.prog w r b0 24 v) (h : DataW.Trod enc Try.prog w base spare held 24 v d p) :
    ∃ (a : DRecState) (c : Nat → Value), v = .agg #[c 0, c 1, c 2] ∧ Lay.At (fun b => b < w.heap.size) w a c := by
  obtain ⟨cs, rfl, hsz⟩ := okWide_struct Try.underlying24 hv
  obtain ⟨m, hm⟩ := h
  have hl : cs.toList.length = 3 := by rw [Array.length_toList]; exact hsz.trans cDRecState
  obtain ⟨a, c, hat, hc⟩ := ofDRecState hl hm
  refine ⟨a, c, ?_, hat⟩
  congr 1
  apply Array.ext
  · rw [hsz]; exact cDRecState
  · intro j h1 h2
    have h3 : j < 3 := by have := hsz.trans cDRecState; omega
    have := hc j (by rw [width_DRecState]; exact h3)
    rw [Array.getElem?_toList, Array.getElem?_eq_getElem h1] at this
    rw [Option.some.inj this]
    rcases (show j = 0 ∨ j = 1 ∨ j = 2 by omega) with rfl | rfl | rfl <;> rfl
end

end Go.Proofs.Ytkongeofapbblad
