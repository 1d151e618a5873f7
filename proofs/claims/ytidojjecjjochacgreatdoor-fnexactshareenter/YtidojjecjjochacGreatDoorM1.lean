/-
  Several texts in one.
-/
import Derived.Test.YtidojjecjjochacGreatDoorLy
import Derived.Deep.Slices
import Derived.Lib.SmallJoins
import Derived.ProofKit
/-
  Types of the laws as data.
-/
namespace Go.Proofs.YtidojjecjjochacGreatDoor
open Go.RowKit
abbrev DShareBatch := ByteArray × List ByteArray × List ByteArray
abbrev DShareBook := List ByteArray × List DShareBatch
theorem width_DShareBatch : Lay.width DShareBatch = 3 := rfl
theorem at_DShareBatch {S : Nat → Prop} {w : World} {a : DShareBatch} {c : Nat → Value} : Lay.At S w a c ↔ (c 0 = .string a.1 ∧ a.1.size ≤ maxLen) ∧ AtL S w a.2.1 (c 1) ∧ AtL S w a.2.2 (c 2) := Iff.rfl
theorem tot_DShareBatch {a : DShareBatch} : Lay.tot a = a.1.size + (totL a.2.1 + (totL a.2.2)) := rfl
theorem width_DShareBook : Lay.width DShareBook = 2 := rfl
theorem at_DShareBook {S : Nat → Prop} {w : World} {a : DShareBook} {c : Nat → Value} : Lay.At S w a c ↔ AtL S w a.1 (c 0) ∧ AtL S w a.2 (c 1) := Iff.rfl
theorem tot_DShareBook {a : DShareBook} : Lay.tot a = totL a.1 + (totL a.2) := rfl

end Go.Proofs.YtidojjecjjochacGreatDoor

/-
  From a value of the law's type that can be read to its data in memory.
-/
namespace Go.Proofs.YtidojjecjjochacGreatDoor
open Go.ChangeShapes Go.WideShapes Go.ChangeAt Go.RowKit

theorem cStr : Tryz.prog.cellsOf 9 = 1 := by kernel_rfl
theorem cLStr : Tryz.prog.cellsOf 22 = 1 := by kernel_rfl
theorem cLShareBatch : Tryz.prog.cellsOf 23 = 1 := by kernel_rfl
theorem cDShareBatch : Tryz.prog.cellsOf 55 = 3 := by kernel_rfl
theorem cDShareBook : Tryz.prog.cellsOf 25 = 2 := by kernel_rfl

section
variable {H : Type} {enc : TypeId × Value → H} {w : World} {base : Nat} {spare : Nat → Bool} {held : Bool}

/-- A list that can be read, if each element can. -/
theorem of_list {t e : TypeId} {fuel : Nat} {v : Value} {x : DataW H × List MemPlace} {α : Type} [Lay α] [Inhabited α] (ht : Tryz.prog.underlying t = some (.slice e)) (hk : Tryz.prog.cellsOf e = Lay.width α) (hk1 : 1 ≤ Lay.width α)
    (hel : ∀ n cs y, cs.length = Lay.width α → DataW.trod enc Tryz.prog w base spare held n e cs = some y → ∃ (a : α) (c : Nat → Value), Lay.At (fun b => b < w.heap.size) w a c ∧ ∀ j, j < Lay.width α → cs[j]? = some (c j))
    (h : DataW.trod enc Tryz.prog w base spare held fuel t [v] = some x) : ∃ l : List α, AtL (fun b => b < w.heap.size) w l v := by
  rcases Deep.open_slice ht h with ⟨h1, _⟩ | ⟨a, len, cap, m, n, D, Pl, h1, hb, hl, hm, hmm, _, hx⟩
  · simp at h1; subst h1
    exact ⟨[], none, 0, rfl, ⟨Nat.zero_le _, Nat.le_refl _, fun _ => rfl⟩, fun i hi => by simp at hi⟩
  · simp at h1; subst h1
    have hle : len ≤ m := by rw [hmm]; split <;> omega
    obtain ⟨f, hf⟩ := Deep.choose_lt (α := α × (Nat → Value)) (n := len) (p := fun i z => Lay.At (fun b => b < w.heap.size) w z.1 z.2 ∧ ∀ j, j < Lay.width α → w.cell? ((a.add (i * Lay.width α)).add j) = some (z.2 j)) (fun i hi => by
      obtain ⟨cs', h2, h3⟩ := hx i (by omega)
      rw [hk] at h2
      obtain ⟨_, h4, h5⟩ := World.cells?_some h2
      obtain ⟨a', c', hq, h6⟩ := hel n cs' _ h4 h3
      exact ⟨(a', c'), hq, fun j hj => (h5 j hj).trans (h6 j hj)⟩)
    refine ⟨List.ofFn (fun i : Fin len => (f i).1), some a, cap, by simp, ⟨by simp; omega, by rw [List.length_ofFn]; omega, fun h => nomatch h⟩, fun i hi => ?_⟩
    have hil : i < len := by simpa using hi
    have h0 := (hf 0 (by omega)).2 0 hk1
    have hsp : a.spot = none := by
      have h7 := World.cell?_spot h0
      simpa [Addr.add] using h7
    obtain ⟨b, off, sp⟩ := a
    simp only at hsp
    subst hsp
    refine ⟨b, off, rfl, ?_, (f i).2, fun j hj => ?_, ?_⟩
    · exact World.block_lt_of_cell? w _ (by simpa [add_plain] using h0)
    · have h8 := (hf i hil).2 j hj
      rw [add_plain, add_plain] at h8
      exact h8
    · rw [List.getElem_ofFn]
      exact (hf i hil).1

theorem ofStr {n : Nat} {cs : List Value} {y : DataW H × List MemPlace} (h : DataW.trod enc Tryz.prog w base spare held n 9 cs = some y) : ∃ a : ByteArray, cs = [.string a] ∧ a.size ≤ maxLen := by
  obtain ⟨s, h1, _, h2⟩ := DataW.trod_string Tryz.underlying9 h
  exact ⟨s, h1, h2⟩
theorem ofLStr {fuel : Nat} {v : Value} {x : DataW H × List MemPlace} (h : DataW.trod enc Tryz.prog w base spare held fuel 22 [v] = some x) : ∃ l : List ByteArray, AtL (fun b => b < w.heap.size) w l v :=
  of_list (α := ByteArray) Tryz.underlying22 cStr (Nat.le_refl _) (fun n cs y hl hy => by
    obtain ⟨a, rfl, ha⟩ := ofStr hy
    exact ⟨a, Go.Proofs.YtidojjecjjochacGreatDoor.cs [.string a], ⟨rfl, ha⟩, fun j hj => by
      have e : j = 0 := by simpa [width_str] using hj
      subst e; rfl⟩) h
theorem ofDShareBatch {n : Nat} {cs : List Value} {y : DataW H × List MemPlace} (hl : cs.length = 3) (hy : DataW.trod enc Tryz.prog w base spare held n 55 cs = some y) : ∃ (a : DShareBatch) (c : Nat → Value), Lay.At (fun b => b < w.heap.size) w a c ∧ ∀ j, j < Lay.width DShareBatch → cs[j]? = some (c j) := by
  match cs, hl with
  | [x0, x1, x2], _ =>
    obtain ⟨xs, m, _, _, _, hlen, hf⟩ := DataW.trod_struct Tryz.underlying55 hy
    have g0 : DataW.trod enc Tryz.prog w base spare held m 9 [x0] = xs[0]? := by simpa [cStr, cLStr] using hf 0 _ rfl
    have g1 : DataW.trod enc Tryz.prog w base spare held m 22 [x1] = xs[1]? := by simpa [cStr, cLStr] using hf 1 _ rfl
    have g2 : DataW.trod enc Tryz.prog w base spare held m 22 [x2] = xs[2]? := by simpa [cStr, cLStr] using hf 2 _ rfl
    rw [List.getElem?_eq_getElem (by rw [hlen]; decide)] at g0 g1 g2
    obtain ⟨a0, e0, k0⟩ := ofStr g0
    obtain ⟨a1, k1⟩ := ofLStr g1
    obtain ⟨a2, k2⟩ := ofLStr g2
    simp at e0
    subst e0
    exact ⟨(a0, a1, a2), Go.Proofs.YtidojjecjjochacGreatDoor.cs [.string a0, x1, x2], at_DShareBatch.2 ⟨⟨rfl, k0⟩, k1, k2⟩, fun j hj => by
      rw [width_DShareBatch] at hj
      rcases (show j = 0 ∨ j = 1 ∨ j = 2 by omega) with rfl | rfl | rfl <;> rfl⟩
theorem ofLShareBatch {fuel : Nat} {v : Value} {x : DataW H × List MemPlace} (h : DataW.trod enc Tryz.prog w base spare held fuel 23 [v] = some x) : ∃ l : List DShareBatch, AtL (fun b => b < w.heap.size) w l v :=
  of_list (α := DShareBatch) Tryz.underlying23 cDShareBatch (by rw [width_DShareBatch]; omega) (fun n cs y hl hy => ofDShareBatch (by simpa [width_DShareBatch] using hl) hy) h
set_option maxRecDepth 100000 in
theorem ofShareBook {r : Reach} {b0 : Nat} {v : Value} {d : DataW H} {p : List MemPlace} (hv : Value.okWide Tryz.prog w r b0 25 v) (h : DataW.Trod enc Tryz.prog w base spare held 25 v d p) :
    ∃ (a : DShareBook) (c : Nat → Value), v = .agg #[c 0, c 1] ∧ Lay.At (fun b => b < w.heap.size) w a c := by
  obtain ⟨v0, v1, y0, y1, n, rfl, _, _, h0, h1⟩ := Joins.open_agg2 Tryz.underlying25 (by kernel_rfl) (by kernel_rfl) hv h
  obtain ⟨a0, k0⟩ := ofLStr h0
  obtain ⟨a1, k1⟩ := ofLShareBatch h1
  exact ⟨(a0, a1), Go.Proofs.YtidojjecjjochacGreatDoor.cs [v0, v1], rfl, at_DShareBook.2 ⟨k0, k1⟩⟩
end

end Go.Proofs.YtidojjecjjochacGreatDoor
