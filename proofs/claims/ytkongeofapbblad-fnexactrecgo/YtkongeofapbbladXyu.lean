/-
  From a value of the law's type that can be read to its data in memory.
-/
import Derived.Test.YtkongeofapbbladXtu
import Derived.Test.YtkongeofapbbladXru
import Derived.Test.YtkongeofapbbladXya
import Derived.Deep.Slices
import Derived.Lib.SmallJoins
import Derived.ProofKit
namespace Go.Proofs.Ytkongeofapbblad
open Go.ChangeShapes Go.WideShapes Go.ChangeAt Go.RowKit

theorem cBool : Try.prog.cellsOf 4 = 1 := by kernel_rfl
theorem cDRecSay : Try.prog.cellsOf 26 = 2 := by kernel_rfl

section
variable {H : Type} {enc : TypeId × Value → H} {w : World} {base : Nat} {spare : Nat → Bool} {held : Bool}


theorem ofBool {n : Nat} {cs : List Value} {y : DataW H × List MemPlace} (h : DataW.trod enc Try.prog w base spare held n 4 cs = some y) : ∃ a : Bool, cs = [.bool a] := by
  obtain ⟨s, h1, _⟩ := DataW.trod_bool Try.underlying4 h
  exact ⟨s, h1⟩
theorem ofDRecSay {n : Nat} {cs : List Value} {y : DataW H × List MemPlace} (hl : cs.length = 2) (hy : DataW.trod enc Try.prog w base spare held n 26 cs = some y) : ∃ (a : DRecSay) (c : Nat → Value), Lay.At (fun b => b < w.heap.size) w a c ∧ ∀ j, j < Lay.width DRecSay → cs[j]? = some (c j) := by
  match cs, hl with
  | [x0, x1], _ =>
    obtain ⟨xs, m, _, _, _, hlen, hf⟩ := DataW.trod_struct Try.underlying26 hy
    have g0 : DataW.trod enc Try.prog w base spare held m 3 [x0] = xs[0]? := by simpa [cStr, cInt, cBool] using hf 0 _ rfl
    have g1 : DataW.trod enc Try.prog w base spare held m 4 [x1] = xs[1]? := by simpa [cStr, cInt, cBool] using hf 1 _ rfl
    rw [List.getElem?_eq_getElem (by rw [hlen]; decide)] at g0 g1
    obtain ⟨a0, e0, k0, m0⟩ := ofInt g0
    obtain ⟨a1, e1⟩ := ofBool g1
    simp at e0 e1
    subst e0 e1
    exact ⟨(a0, a1), Go.Proofs.Ytkongeofapbblad.cs [.int .i64 a0, .bool a1], at_DRecSay.2 ⟨⟨rfl, k0, m0⟩, rfl⟩, fun j hj => by
      rw [width_DRecSay] at hj
      rcases (show j = 0 ∨ j = 1 by omega) with rfl | rfl <;> rfl⟩
set_option maxRecDepth 100000 in
theorem ofRecSay {r : Reach} {b0 : Nat} {v : Value} {d : DataW H} {p : List MemPlace} (hv : Value.okWide Try.prog w r b0 26 v) (h : DataW.Trod enc Try.prog w base spare held 26 v d p) :
    ∃ (a : DRecSay) (c : Nat → Value), v = .agg #[c 0, c 1] ∧ Lay.At (fun b => b < w.heap.size) w a c := by
  obtain ⟨cs, rfl, hsz⟩ := okWide_struct Try.underlying26 hv
  obtain ⟨m, hm⟩ := h
  have hl : cs.toList.length = 2 := by rw [Array.length_toList]; exact hsz.trans cDRecSay
  obtain ⟨a, c, hat, hc⟩ := ofDRecSay hl hm
  refine ⟨a, c, ?_, hat⟩
  congr 1
  apply Array.ext
  · rw [hsz]; exact cDRecSay
  · intro j h1 h2
    have h3 : j < 2 := by have := hsz.trans cDRecSay; omega
    have := hc j (by rw [width_DRecSay]; exact h3)
    rw [Array.getElem?_toList, Array.getElem?_eq_getElem h1] at this
    rw [Option.some.inj this]
    rcases (show j = 0 ∨ j = 1 by omega) with rfl | rfl <;> rfl
end

end Go.Proofs.Ytkongeofapbblad
