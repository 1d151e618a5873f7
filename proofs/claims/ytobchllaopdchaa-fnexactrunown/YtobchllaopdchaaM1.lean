/-
  Several texts in one.
-/
import Derived.Test.YtobchllaopdchaaLy
import Derived.Deep.Slices
import Derived.Lib.SmallJoins
import Derived.ProofKit
namespace Go.Proofs.Ytobchllaopdchaa
open Go.RowKit
abbrev DRecPhase := ByteArray × Int × ByteArray × ByteArray × Int × Int × ByteArray × ByteArray
theorem width_DRecPhase : Lay.width DRecPhase = 8 := rfl
theorem at_DRecPhase {S : Nat → Prop} {w : World} {a : DRecPhase} {c : Nat → Value} : Lay.At S w a c ↔ (c 0 = .string a.1 ∧ a.1.size ≤ maxLen) ∧ (c 1 = .int .i64 a.2.1 ∧ -9223372036854775808 ≤ a.2.1 ∧ a.2.1 ≤ 9223372036854775807) ∧ (c 2 = .string a.2.2.1 ∧ a.2.2.1.size ≤ maxLen) ∧ (c 3 = .string a.2.2.2.1 ∧ a.2.2.2.1.size ≤ maxLen) ∧ (c 4 = .int .i64 a.2.2.2.2.1 ∧ -9223372036854775808 ≤ a.2.2.2.2.1 ∧ a.2.2.2.2.1 ≤ 9223372036854775807) ∧ (c 5 = .int .i64 a.2.2.2.2.2.1 ∧ -9223372036854775808 ≤ a.2.2.2.2.2.1 ∧ a.2.2.2.2.2.1 ≤ 9223372036854775807) ∧ (c 6 = .string a.2.2.2.2.2.2.1 ∧ a.2.2.2.2.2.2.1.size ≤ maxLen) ∧ (c 7 = .string a.2.2.2.2.2.2.2 ∧ a.2.2.2.2.2.2.2.size ≤ maxLen) := Iff.rfl
theorem tot_DRecPhase {a : DRecPhase} : Lay.tot a = a.1.size + (0 + (a.2.2.1.size + (a.2.2.2.1.size + (0 + (0 + (a.2.2.2.2.2.2.1.size + (a.2.2.2.2.2.2.2.size))))))) := rfl
end Go.Proofs.Ytobchllaopdchaa

namespace Go.Proofs.Ytobchllaopdchaa
open Go.RowKit
abbrev DRunSlot := ByteArray × ByteArray
abbrev DRunBatch := ByteArray × List DRecPhase × List DRunSlot × ByteArray × Int × Int
theorem width_DRunSlot : Lay.width DRunSlot = 2 := rfl
theorem at_DRunSlot {S : Nat → Prop} {w : World} {a : DRunSlot} {c : Nat → Value} : Lay.At S w a c ↔ (c 0 = .string a.1 ∧ a.1.size ≤ maxLen) ∧ (c 1 = .string a.2 ∧ a.2.size ≤ maxLen) := Iff.rfl
theorem tot_DRunSlot {a : DRunSlot} : Lay.tot a = a.1.size + (a.2.size) := rfl
theorem width_DRunBatch : Lay.width DRunBatch = 6 := rfl
theorem at_DRunBatch {S : Nat → Prop} {w : World} {a : DRunBatch} {c : Nat → Value} : Lay.At S w a c ↔ (c 0 = .string a.1 ∧ a.1.size ≤ maxLen) ∧ AtL S w a.2.1 (c 1) ∧ AtL S w a.2.2.1 (c 2) ∧ (c 3 = .string a.2.2.2.1 ∧ a.2.2.2.1.size ≤ maxLen) ∧ (c 4 = .int .i64 a.2.2.2.2.1 ∧ -9223372036854775808 ≤ a.2.2.2.2.1 ∧ a.2.2.2.2.1 ≤ 9223372036854775807) ∧ (c 5 = .int .i64 a.2.2.2.2.2 ∧ -9223372036854775808 ≤ a.2.2.2.2.2 ∧ a.2.2.2.2.2 ≤ 9223372036854775807) := Iff.rfl
theorem tot_DRunBatch {a : DRunBatch} : Lay.tot a = a.1.size + (totL a.2.1 + (totL a.2.2.1 + (a.2.2.2.1.size + (0 + (0))))) := rfl
end Go.Proofs.Ytobchllaopdchaa

namespace Go.Proofs.Ytobchllaopdchaa
open Go.ChangeShapes Go.WideShapes Go.ChangeAt Go.RowKit
theorem cStr : Try.prog.cellsOf 9 = 1 := by kernel_rfl
theorem cInt : Try.prog.cellsOf 3 = 1 := by kernel_rfl
theorem cLRecPhase : Try.prog.cellsOf 22 = 1 := by kernel_rfl
theorem cLRunSlot : Try.prog.cellsOf 23 = 1 := by kernel_rfl
theorem cDRecPhase : Try.prog.cellsOf 64 = 8 := by kernel_rfl
theorem cDRunSlot : Try.prog.cellsOf 67 = 2 := by kernel_rfl
theorem cDRunBatch : Try.prog.cellsOf 25 = 6 := by kernel_rfl
section
variable {H : Type} {enc : TypeId × Value → H} {w : World} {base : Nat} {spare : Nat → Bool} {held : Bool}
theorem of_list {t e : TypeId} {fuel : Nat} {v : Value} {x : DataW H × List MemPlace} {α : Type} [Lay α] [Inhabited α] (ht : Try.prog.underlying t = some (.slice e)) (hk : Try.prog.cellsOf e = Lay.width α) (hk1 : 1 ≤ Lay.width α)
    (hel : ∀ n cs y, cs.length = Lay.width α → DataW.trod enc Try.prog w base spare held n e cs = some y → ∃ (a : α) (c : Nat → Value), Lay.At (fun b => b < w.heap.size) w a c ∧ ∀ j, j < Lay.width α → cs[j]? = some (c j))
    (h : DataW.trod enc Try.prog w base spare held fuel t [v] = some x) : ∃ l : List α, AtL (fun b => b < w.heap.size) w l v := by
  rcases Deep.open_slice ht h with ⟨h1, _⟩ | ⟨a, len, cap, m, n, D, Pl, h1, hb, hl, hm, hmm, _, hx⟩
  · simp at h1; subst h1
    exact ⟨[], none, 0, rfl, ⟨Nat.zero_le _, Nat.le_refl _, fun _ => rfl⟩, fun i hi => by simp at hi⟩
  · simp at h1; subst h1
    have hle : len ≤ m := by rw [hmm]; split <;> omega
    obtain ⟨f, hf⟩ := Deep.choose_lt (α := α × (Nat → Value)) (n := len) (p := fun i z => Lay.At (fun b => b < w.heap.size) w z.1 z.2 ∧ ∀ j, j < Lay.width α → w.cell? ((a.add (i * Lay.width α)).add j) = some (z.2 j)) (fun i hi => by
      obtain ⟨cs', h2, h3⟩ := hx i (by omega)
      rw [hk] at h2
      obtain ⟨_, h4, h5⟩ := World.cells?_some h2
      obtain ⟨a', c', hq, h6⟩ := hel n cs' _ h4 h3
      exact ⟨(a', c'), hq, fun j hj => (h5 j hj).trans (h6 j hj)⟩)
    refine ⟨List.ofFn (fun i : Fin len => (f i).1), some a, cap, by simp, ⟨by simp; omega, by rw [List.length_ofFn]; omega, fun h => nomatch h⟩, fun i hi => ?_⟩
    have hil : i < len := by simpa using hi
    have h0 := (hf 0 (by omega)).2 0 hk1
    have hsp : a.spot = none := by
      have h7 := World.cell?_spot h0
      simpa [Addr.add] using h7
    obtain ⟨b, off, sp⟩ := a
    simp only at hsp
    subst hsp
    refine ⟨b, off, rfl, ?_, (f i).2, fun j hj => ?_, ?_⟩
    · exact World.block_lt_of_cell? w _ (by simpa [add_plain] using h0)
    · have h8 := (hf i hil).2 j hj
      rw [add_plain, add_plain] at h8
      exact h8
    · rw [List.getElem_ofFn]
      exact (hf i hil).1
theorem ofStr {n : Nat} {cs : List Value} {y : DataW H × List MemPlace} (h : DataW.trod enc Try.prog w base spare held n 9 cs = some y) : ∃ a : ByteArray, cs = [.string a] ∧ a.size ≤ maxLen := by
  obtain ⟨s, h1, _, h2⟩ := DataW.trod_string Try.underlying9 h
  exact ⟨s, h1, h2⟩
theorem ofInt {n : Nat} {cs : List Value} {y : DataW H × List MemPlace} (h : DataW.trod enc Try.prog w base spare held n 3 cs = some y) : ∃ a : Int, cs = [.int .i64 a] ∧ -9223372036854775808 ≤ a ∧ a ≤ 9223372036854775807 := by
  obtain ⟨s, h1, _, h2⟩ := DataW.trod_int Try.underlying3 h
  refine ⟨s, h1, ?_⟩
  have e1 : IntKind.i64.min = -9223372036854775808 := by decide
  have e2 : IntKind.i64.max = 9223372036854775807 := by decide
  simp [Lit.wf] at h2
  omega
theorem ofDRecPhase {n : Nat} {cs : List Value} {y : DataW H × List MemPlace} (hl : cs.length = 8) (hy : DataW.trod enc Try.prog w base spare held n 64 cs = some y) : ∃ (a : DRecPhase) (c : Nat → Value), Lay.At (fun b => b < w.heap.size) w a c ∧ ∀ j, j < Lay.width DRecPhase → cs[j]? = some (c j) := by
  match cs, hl with
  | [x0, x1, x2, x3, x4, x5, x6, x7], _ =>
    obtain ⟨xs, m, _, _, _, hlen, hf⟩ := DataW.trod_struct Try.underlying64 hy
    have g0 : DataW.trod enc Try.prog w base spare held m 9 [x0] = xs[0]? := by simpa [cStr, cInt] using hf 0 _ rfl
    have g1 : DataW.trod enc Try.prog w base spare held m 3 [x1] = xs[1]? := by simpa [cStr, cInt] using hf 1 _ rfl
    have g2 : DataW.trod enc Try.prog w base spare held m 9 [x2] = xs[2]? := by simpa [cStr, cInt] using hf 2 _ rfl
    have g3 : DataW.trod enc Try.prog w base spare held m 9 [x3] = xs[3]? := by simpa [cStr, cInt] using hf 3 _ rfl
    have g4 : DataW.trod enc Try.prog w base spare held m 3 [x4] = xs[4]? := by simpa [cStr, cInt] using hf 4 _ rfl
    have g5 : DataW.trod enc Try.prog w base spare held m 3 [x5] = xs[5]? := by simpa [cStr, cInt] using hf 5 _ rfl
    have g6 : DataW.trod enc Try.prog w base spare held m 9 [x6] = xs[6]? := by simpa [cStr, cInt] using hf 6 _ rfl
    have g7 : DataW.trod enc Try.prog w base spare held m 9 [x7] = xs[7]? := by simpa [cStr, cInt] using hf 7 _ rfl
    rw [List.getElem?_eq_getElem (by rw [hlen]; decide)] at g0 g1 g2 g3 g4 g5 g6 g7
    obtain ⟨a0, e0, k0⟩ := ofStr g0
    obtain ⟨a1, e1, k1, m1⟩ := ofInt g1
    obtain ⟨a2, e2, k2⟩ := ofStr g2
    obtain ⟨a3, e3, k3⟩ := ofStr g3
    obtain ⟨a4, e4, k4, m4⟩ := ofInt g4
    obtain ⟨a5, e5, k5, m5⟩ := ofInt g5
    obtain ⟨a6, e6, k6⟩ := ofStr g6
    obtain ⟨a7, e7, k7⟩ := ofStr g7
    simp at e0 e1 e2 e3 e4 e5 e6 e7
    subst e0 e1 e2 e3 e4 e5 e6 e7
    exact ⟨(a0, a1, a2, a3, a4, a5, a6, a7), Go.Proofs.Ytobchllaopdchaa.cs [.string a0, .int .i64 a1, .string a2, .string a3, .int .i64 a4, .int .i64 a5, .string a6, .string a7], at_DRecPhase.2 ⟨⟨rfl, k0⟩, ⟨rfl, k1, m1⟩, ⟨rfl, k2⟩, ⟨rfl, k3⟩, ⟨rfl, k4, m4⟩, ⟨rfl, k5, m5⟩, ⟨rfl, k6⟩, ⟨rfl, k7⟩⟩, fun j hj => by
      rw [width_DRecPhase] at hj
      rcases (show j = 0 ∨ j = 1 ∨ j = 2 ∨ j = 3 ∨ j = 4 ∨ j = 5 ∨ j = 6 ∨ j = 7 by omega) with rfl | rfl | rfl | rfl | rfl | rfl | rfl | rfl <;> rfl⟩
theorem ofDRunSlot {n : Nat} {cs : List Value} {y : DataW H × List MemPlace} (hl : cs.length = 2) (hy : DataW.trod enc Try.prog w base spare held n 67 cs = some y) : ∃ (a : DRunSlot) (c : Nat → Value), Lay.At (fun b => b < w.heap.size) w a c ∧ ∀ j, j < Lay.width DRunSlot → cs[j]? = some (c j) := by
  match cs, hl with
  | [x0, x1], _ =>
    obtain ⟨xs, m, _, _, _, hlen, hf⟩ := DataW.trod_struct Try.underlying67 hy
    have g0 : DataW.trod enc Try.prog w base spare held m 9 [x0] = xs[0]? := by simpa [cStr] using hf 0 _ rfl
    have g1 : DataW.trod enc Try.prog w base spare held m 9 [x1] = xs[1]? := by simpa [cStr] using hf 1 _ rfl
    rw [List.getElem?_eq_getElem (by rw [hlen]; decide)] at g0 g1
    obtain ⟨a0, e0, k0⟩ := ofStr g0
    obtain ⟨a1, e1, k1⟩ := ofStr g1
    simp at e0 e1
    subst e0 e1
    exact ⟨(a0, a1), Go.Proofs.Ytobchllaopdchaa.cs [.string a0, .string a1], at_DRunSlot.2 ⟨⟨rfl, k0⟩, ⟨rfl, k1⟩⟩, fun j hj => by
      rw [width_DRunSlot] at hj
      rcases (show j = 0 ∨ j = 1 by omega) with rfl | rfl <;> rfl⟩
theorem ofLRecPhase {fuel : Nat} {v : Value} {x : DataW H × List MemPlace} (h : DataW.trod enc Try.prog w base spare held fuel 22 [v] = some x) : ∃ l : List DRecPhase, AtL (fun b => b < w.heap.size) w l v :=
  of_list (α := DRecPhase) Try.underlying22 cDRecPhase (by rw [width_DRecPhase]; omega) (fun n cs y hl hy => ofDRecPhase (by simpa [width_DRecPhase] using hl) hy) h
theorem ofLRunSlot {fuel : Nat} {v : Value} {x : DataW H × List MemPlace} (h : DataW.trod enc Try.prog w base spare held fuel 23 [v] = some x) : ∃ l : List DRunSlot, AtL (fun b => b < w.heap.size) w l v :=
  of_list (α := DRunSlot) Try.underlying23 cDRunSlot (by rw [width_DRunSlot]; omega) (fun n cs y hl hy => ofDRunSlot (by simpa [width_DRunSlot] using hl) hy) h
theorem ofDRunBatch {n : Nat} {cs : List Value} {y : DataW H × List MemPlace} (hl : cs.length = 6) (hy : DataW.trod enc Try.prog w base spare held n 25 cs = some y) : ∃ (a : DRunBatch) (c : Nat → Value), Lay.At (fun b => b < w.heap.size) w a c ∧ ∀ j, j < Lay.width DRunBatch → cs[j]? = some (c j) := by
  match cs, hl with
  | [x0, x1, x2, x3, x4, x5], _ =>
    obtain ⟨xs, m, _, _, _, hlen, hf⟩ := DataW.trod_struct Try.underlying25 hy
    have g0 : DataW.trod enc Try.prog w base spare held m 9 [x0] = xs[0]? := by simpa [cStr, cInt, cLRecPhase, cLRunSlot] using hf 0 _ rfl
    have g1 : DataW.trod enc Try.prog w base spare held m 22 [x1] = xs[1]? := by simpa [cStr, cInt, cLRecPhase, cLRunSlot] using hf 1 _ rfl
    have g2 : DataW.trod enc Try.prog w base spare held m 23 [x2] = xs[2]? := by simpa [cStr, cInt, cLRecPhase, cLRunSlot] using hf 2 _ rfl
    have g3 : DataW.trod enc Try.prog w base spare held m 9 [x3] = xs[3]? := by simpa [cStr, cInt, cLRecPhase, cLRunSlot] using hf 3 _ rfl
    have g4 : DataW.trod enc Try.prog w base spare held m 3 [x4] = xs[4]? := by simpa [cStr, cInt, cLRecPhase, cLRunSlot] using hf 4 _ rfl
    have g5 : DataW.trod enc Try.prog w base spare held m 3 [x5] = xs[5]? := by simpa [cStr, cInt, cLRecPhase, cLRunSlot] using hf 5 _ rfl
    rw [List.getElem?_eq_getElem (by rw [hlen]; decide)] at g0 g1 g2 g3 g4 g5
    obtain ⟨a0, e0, k0⟩ := ofStr g0
    obtain ⟨a1, k1⟩ := ofLRecPhase g1
    obtain ⟨a2, k2⟩ := ofLRunSlot g2
    obtain ⟨a3, e3, k3⟩ := ofStr g3
    obtain ⟨a4, e4, k4, m4⟩ := ofInt g4
    obtain ⟨a5, e5, k5, m5⟩ := ofInt g5
    simp at e0 e3 e4 e5
    subst e0 e3 e4 e5
    exact ⟨(a0, a1, a2, a3, a4, a5), Go.Proofs.Ytobchllaopdchaa.cs [.string a0, x1, x2, .string a3, .int .i64 a4, .int .i64 a5], at_DRunBatch.2 ⟨⟨rfl, k0⟩, k1, k2, ⟨rfl, k3⟩, ⟨rfl, k4, m4⟩, ⟨rfl, k5, m5⟩⟩, fun j hj => by
      rw [width_DRunBatch] at hj
      rcases (show j = 0 ∨ j = 1 ∨ j = 2 ∨ j = 3 ∨ j = 4 ∨ j = 5 by omega) with rfl | rfl | rfl | rfl | rfl | rfl <;> rfl⟩
set_option maxRecDepth 100000 in
theorem ofRunBatch {r : Reach} {b0 : Nat} {v : Value} {d : DataW H} {p : List MemPlace} (hv : Value.okWide Try.prog w r b0 25 v) (h : DataW.Trod enc Try.prog w base spare held 25 v d p) :
    ∃ (a : DRunBatch) (c : Nat → Value), v = .agg #[c 0, c 1, c 2, c 3, c 4, c 5] ∧ Lay.At (fun b => b < w.heap.size) w a c := by
  obtain ⟨cs, rfl, hsz⟩ := okWide_struct Try.underlying25 hv
  obtain ⟨m, hm⟩ := h
  have hl : cs.toList.length = 6 := by rw [Array.length_toList]; exact hsz.trans cDRunBatch
  obtain ⟨a, c, hat, hc⟩ := ofDRunBatch hl hm
  refine ⟨a, c, ?_, hat⟩
  congr 1
  apply Array.ext
  · rw [hsz]; exact cDRunBatch
  · intro j h1 h2
    have h3 : j < 6 := by have := hsz.trans cDRunBatch; omega
    have := hc j (by rw [width_DRunBatch]; exact h3)
    rw [Array.getElem?_toList, Array.getElem?_eq_getElem h1] at this
    rw [Option.some.inj this]
    rcases (show j = 0 ∨ j = 1 ∨ j = 2 ∨ j = 3 ∨ j = 4 ∨ j = 5 by omega) with rfl | rfl | rfl | rfl | rfl | rfl <;> rfl
end
end Go.Proofs.Ytobchllaopdchaa
