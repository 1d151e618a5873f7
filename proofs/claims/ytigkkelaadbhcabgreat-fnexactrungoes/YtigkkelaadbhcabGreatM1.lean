/-
  Several texts in one.
-/
import Derived.Test.YtigkkelaadbhcabGreatLy
import Derived.Deep.Slices
import Derived.Lib.SmallJoins
import Derived.ProofKit
namespace Go.Proofs.YtigkkelaadbhcabGreat
open Go.RowKit
abbrev DRecPhase := ByteArray × Int × ByteArray × ByteArray × Int × Int × ByteArray × ByteArray
theorem width_DRecPhase : Lay.width DRecPhase = 8 := rfl
theorem at_DRecPhase {S : Nat → Prop} {w : World} {a : DRecPhase} {c : Nat → Value} : Lay.At S w a c ↔ (c 0 = .string a.1 ∧ a.1.size ≤ maxLen) ∧ (c 1 = .int .i64 a.2.1 ∧ -9223372036854775808 ≤ a.2.1 ∧ a.2.1 ≤ 9223372036854775807) ∧ (c 2 = .string a.2.2.1 ∧ a.2.2.1.size ≤ maxLen) ∧ (c 3 = .string a.2.2.2.1 ∧ a.2.2.2.1.size ≤ maxLen) ∧ (c 4 = .int .i64 a.2.2.2.2.1 ∧ -9223372036854775808 ≤ a.2.2.2.2.1 ∧ a.2.2.2.2.1 ≤ 9223372036854775807) ∧ (c 5 = .int .i64 a.2.2.2.2.2.1 ∧ -9223372036854775808 ≤ a.2.2.2.2.2.1 ∧ a.2.2.2.2.2.1 ≤ 9223372036854775807) ∧ (c 6 = .string a.2.2.2.2.2.2.1 ∧ a.2.2.2.2.2.2.1.size ≤ maxLen) ∧ (c 7 = .string a.2.2.2.2.2.2.2 ∧ a.2.2.2.2.2.2.2.size ≤ maxLen) := Iff.rfl
theorem tot_DRecPhase {a : DRecPhase} : Lay.tot a = a.1.size + (0 + (a.2.2.1.size + (a.2.2.2.1.size + (0 + (0 + (a.2.2.2.2.2.2.1.size + (a.2.2.2.2.2.2.2.size))))))) := rfl
end Go.Proofs.YtigkkelaadbhcabGreat

namespace Go.Proofs.YtigkkelaadbhcabGreat
open Go.RowKit
abbrev DRunSlot := ByteArray × ByteArray
abbrev DRunBatch := ByteArray × List DRecPhase × List DRunSlot × ByteArray × Int × Int
theorem width_DRunSlot : Lay.width DRunSlot = 2 := rfl
theorem at_DRunSlot {S : Nat → Prop} {w : World} {a : DRunSlot} {c : Nat → Value} : Lay.At S w a c ↔ (c 0 = .string a.1 ∧ a.1.size ≤ maxLen) ∧ (c 1 = .string a.2 ∧ a.2.size ≤ maxLen) := Iff.rfl
theorem tot_DRunSlot {a : DRunSlot} : Lay.tot a = a.1.size + (a.2.size) := rfl
theorem width_DRunBatch : Lay.width DRunBatch = 6 := rfl
theorem at_DRunBatch {S : Nat → Prop} {w : World} {a : DRunBatch} {c : Nat → Value} : Lay.At S w a c ↔ (c 0 = .string a.1 ∧ a.1.size ≤ maxLen) ∧ AtL S w a.2.1 (c 1) ∧ AtL S w a.2.2.1 (c 2) ∧ (c 3 = .string a.2.2.2.1 ∧ a.2.2.2.1.size ≤ maxLen) ∧ (c 4 = .int .i64 a.2.2.2.2.1 ∧ -9223372036854775808 ≤ a.2.2.2.2.1 ∧ a.2.2.2.2.1 ≤ 9223372036854775807) ∧ (c 5 = .int .i64 a.2.2.2.2.2 ∧ -9223372036854775808 ≤ a.2.2.2.2.2 ∧ a.2.2.2.2.2 ≤ 9223372036854775807) := Iff.rfl
theorem tot_DRunBatch {a : DRunBatch} : Lay.tot a = a.1.size + (totL a.2.1 + (totL a.2.2.1 + (a.2.2.2.1.size + (0 + (0))))) := rfl
end Go.Proofs.YtigkkelaadbhcabGreat

namespace Go.Proofs.YtigkkelaadbhcabGreat
open Go.RowKit
abbrev DShareBatch := ByteArray × List ByteArray × List ByteArray
abbrev DShareBook := List ByteArray × List DShareBatch
theorem width_DShareBatch : Lay.width DShareBatch = 3 := rfl
theorem at_DShareBatch {S : Nat → Prop} {w : World} {a : DShareBatch} {c : Nat → Value} : Lay.At S w a c ↔ (c 0 = .string a.1 ∧ a.1.size ≤ maxLen) ∧ AtL S w a.2.1 (c 1) ∧ AtL S w a.2.2 (c 2) := Iff.rfl
theorem tot_DShareBatch {a : DShareBatch} : Lay.tot a = a.1.size + (totL a.2.1 + (totL a.2.2)) := rfl
theorem width_DShareBook : Lay.width DShareBook = 2 := rfl
theorem at_DShareBook {S : Nat → Prop} {w : World} {a : DShareBook} {c : Nat → Value} : Lay.At S w a c ↔ AtL S w a.1 (c 0) ∧ AtL S w a.2 (c 1) := Iff.rfl
theorem tot_DShareBook {a : DShareBook} : Lay.tot a = totL a.1 + (totL a.2) := rfl
end Go.Proofs.YtigkkelaadbhcabGreat

namespace Go.Proofs.YtigkkelaadbhcabGreat
open Go.RowKit
abbrev DRunDone := ByteArray × Int × Int
theorem width_DRunDone : Lay.width DRunDone = 3 := rfl
theorem at_DRunDone {S : Nat → Prop} {w : World} {a : DRunDone} {c : Nat → Value} : Lay.At S w a c ↔ (c 0 = .string a.1 ∧ a.1.size ≤ maxLen) ∧ (c 1 = .int .i64 a.2.1 ∧ -9223372036854775808 ≤ a.2.1 ∧ a.2.1 ≤ 9223372036854775807) ∧ (c 2 = .int .i64 a.2.2 ∧ -9223372036854775808 ≤ a.2.2 ∧ a.2.2 ≤ 9223372036854775807) := Iff.rfl
theorem tot_DRunDone {a : DRunDone} : Lay.tot a = a.1.size + (0 + (0)) := rfl
abbrev DRunHouse := Int × Int × List ByteArray × List DShareBatch × List DRunBatch × List DRunDone
theorem width_DRunHouse : Lay.width DRunHouse = 6 := rfl
theorem at_DRunHouse {S : Nat → Prop} {w : World} {a : DRunHouse} {c : Nat → Value} : Lay.At S w a c ↔ (c 0 = .int .i64 a.1 ∧ -9223372036854775808 ≤ a.1 ∧ a.1 ≤ 9223372036854775807) ∧ (c 1 = .int .i64 a.2.1 ∧ -9223372036854775808 ≤ a.2.1 ∧ a.2.1 ≤ 9223372036854775807) ∧ AtL S w a.2.2.1 (c 2) ∧ AtL S w a.2.2.2.1 (c 3) ∧ AtL S w a.2.2.2.2.1 (c 4) ∧ AtL S w a.2.2.2.2.2 (c 5) := Iff.rfl
theorem tot_DRunHouse {a : DRunHouse} : Lay.tot a = 0 + (0 + (totL a.2.2.1 + (totL a.2.2.2.1 + (totL a.2.2.2.2.1 + (totL a.2.2.2.2.2))))) := rfl
end Go.Proofs.YtigkkelaadbhcabGreat

namespace Go.Proofs.YtigkkelaadbhcabGreat
open Go.ChangeShapes Go.WideShapes Go.ChangeAt Go.RowKit
theorem cStr : Tryz.prog.cellsOf 9 = 1 := by kernel_rfl
theorem cInt : Tryz.prog.cellsOf 3 = 1 := by kernel_rfl
theorem cLRecPhase : Tryz.prog.cellsOf 72 = 1 := by kernel_rfl
theorem cLRunSlot : Tryz.prog.cellsOf 73 = 1 := by kernel_rfl
theorem cLStr : Tryz.prog.cellsOf 22 = 1 := by kernel_rfl
theorem cLShareBatch : Tryz.prog.cellsOf 23 = 1 := by kernel_rfl
theorem cLRunBatch : Tryz.prog.cellsOf 26 = 1 := by kernel_rfl
theorem cLRunDone : Tryz.prog.cellsOf 27 = 1 := by kernel_rfl
theorem cDRecPhase : Tryz.prog.cellsOf 139 = 8 := by kernel_rfl
theorem cDRunSlot : Tryz.prog.cellsOf 141 = 2 := by kernel_rfl
theorem cDRunBatch : Tryz.prog.cellsOf 75 = 6 := by kernel_rfl
theorem cDShareBatch : Tryz.prog.cellsOf 100 = 3 := by kernel_rfl
theorem cDShareBook : Tryz.prog.cellsOf 25 = 2 := by kernel_rfl
theorem cDRunDone : Tryz.prog.cellsOf 78 = 3 := by kernel_rfl
theorem cDRunHouse : Tryz.prog.cellsOf 29 = 6 := by kernel_rfl
section
variable {H : Type} {enc : TypeId × Value → H} {w : World} {base : Nat} {spare : Nat → Bool} {held : Bool}
theorem of_list {t e : TypeId} {fuel : Nat} {v : Value} {x : DataW H × List MemPlace} {α : Type} [Lay α] [Inhabited α] (ht : Tryz.prog.underlying t = some (.slice e)) (hk : Tryz.prog.cellsOf e = Lay.width α) (hk1 : 1 ≤ Lay.width α)
    (hel : ∀ n cs y, cs.length = Lay.width α → DataW.trod enc Tryz.prog w base spare held n e cs = some y → ∃ (a : α) (c : Nat → Value), Lay.At (fun b => b < w.heap.size) w a c ∧ ∀ j, j < Lay.width α → cs[j]? = some (c j))
    (h : DataW.trod enc Tryz.prog w base spare held fuel t [v] = some x) : ∃ l : List α, AtL (fun b => b < w.heap.size) w l v := by
  rcases Deep.open_slice ht h with ⟨h1, _⟩ | ⟨a, len, cap, m, n, D, Pl, h1, hb, hl, hm, hmm, _, hx⟩
  · simp at h1; subst h1
    exact ⟨[], none, 0, rfl, ⟨Nat.zero_le _, Nat.le_refl _, fun _ => rfl⟩, fun i hi => by simp at hi⟩
  · simp at h1; subst h1
    have hle : len ≤ m := by rw [hmm]; split <;> omega
    obtain ⟨f, hf⟩ := Deep.choose_lt (α := α × (Nat → Value)) (n := len) (p := fun i z => Lay.At (fun b => b < w.heap.size) w z.1 z.2 ∧ ∀ j, j < Lay.width α → w.cell? ((a.add (i * Lay.width α)).add j) = some (z.2 j)) (fun i hi => by
      obtain ⟨cs', h2, h3⟩ := hx i (by omega)
      rw [hk] at h2
      obtain ⟨_, h4, h5⟩ := World.cells?_some h2
      obtain ⟨a', c', hq, h6⟩ := hel n cs' _ h4 h3
      exact ⟨(a', c'), hq, fun j hj => (h5 j hj).trans (h6 j hj)⟩)
    refine ⟨List.ofFn (fun i : Fin len => (f i).1), some a, cap, by simp, ⟨by simp; omega, by rw [List.length_ofFn]; omega, fun h => nomatch h⟩, fun i hi => ?_⟩
    have hil : i < len := by simpa using hi
    have h0 := (hf 0 (by omega)).2 0 hk1
    have hsp : a.spot = none := by
      have h7 := World.cell?_spot h0
      simpa [Addr.add] using h7
    obtain ⟨b, off, sp⟩ := a
    simp only at hsp
    subst hsp
    refine ⟨b, off, rfl, ?_, (f i).2, fun j hj => ?_, ?_⟩
    · exact World.block_lt_of_cell? w _ (by simpa [add_plain] using h0)
    · have h8 := (hf i hil).2 j hj
      rw [add_plain, add_plain] at h8
      exact h8
    · rw [List.getElem_ofFn]
      exact (hf i hil).1
theorem ofStr {n : Nat} {cs : List Value} {y : DataW H × List MemPlace} (h : DataW.trod enc Tryz.prog w base spare held n 9 cs = some y) : ∃ a : ByteArray, cs = [.string a] ∧ a.size ≤ maxLen := by
  obtain ⟨s, h1, _, h2⟩ := DataW.trod_string Tryz.underlying9 h
  exact ⟨s, h1, h2⟩
theorem ofInt {n : Nat} {cs : List Value} {y : DataW H × List MemPlace} (h : DataW.trod enc Tryz.prog w base spare held n 3 cs = some y) : ∃ a : Int, cs = [.int .i64 a] ∧ -9223372036854775808 ≤ a ∧ a ≤ 9223372036854775807 := by
  obtain ⟨s, h1, _, h2⟩ := DataW.trod_int Tryz.underlying3 h
  refine ⟨s, h1, ?_⟩
  have e1 : IntKind.i64.min = -9223372036854775808 := by decide
  have e2 : IntKind.i64.max = 9223372036854775807 := by decide
  simp [Lit.wf] at h2
  omega
theorem ofDRecPhase {n : Nat} {cs : List Value} {y : DataW H × List MemPlace} (hl : cs.length = 8) (hy : DataW.trod enc Tryz.prog w base spare held n 139 cs = some y) : ∃ (a : DRecPhase) (c : Nat → Value), Lay.At (fun b => b < w.heap.size) w a c ∧ ∀ j, j < Lay.width DRecPhase → cs[j]? = some (c j) := by
  match cs, hl with
  | [x0, x1, x2, x3, x4, x5, x6, x7], _ =>
    obtain ⟨xs, m, _, _, _, hlen, hf⟩ := DataW.trod_struct Tryz.underlying139 hy
    have g0 : DataW.trod enc Tryz.prog w base spare held m 9 [x0] = xs[0]? := by simpa [cStr, cInt] using hf 0 _ rfl
    have g1 : DataW.trod enc Tryz.prog w base spare held m 3 [x1] = xs[1]? := by simpa [cStr, cInt] using hf 1 _ rfl
    have g2 : DataW.trod enc Tryz.prog w base spare held m 9 [x2] = xs[2]? := by simpa [cStr, cInt] using hf 2 _ rfl
    have g3 : DataW.trod enc Tryz.prog w base spare held m 9 [x3] = xs[3]? := by simpa [cStr, cInt] using hf 3 _ rfl
    have g4 : DataW.trod enc Tryz.prog w base spare held m 3 [x4] = xs[4]? := by simpa [cStr, cInt] using hf 4 _ rfl
    have g5 : DataW.trod enc Tryz.prog w base spare held m 3 [x5] = xs[5]? := by simpa [cStr, cInt] using hf 5 _ rfl
    have g6 : DataW.trod enc Tryz.prog w base spare held m 9 [x6] = xs[6]? := by simpa [cStr, cInt] using hf 6 _ rfl
    have g7 : DataW.trod enc Tryz.prog w base spare held m 9 [x7] = xs[7]? := by simpa [cStr, cInt] using hf 7 _ rfl
    rw [List.getElem?_eq_getElem (by rw [hlen]; decide)] at g0 g1 g2 g3 g4 g5 g6 g7
    obtain ⟨a0, e0, k0⟩ := ofStr g0
    obtain ⟨a1, e1, k1, m1⟩ := ofInt g1
    obtain ⟨a2, e2, k2⟩ := ofStr g2
    obtain ⟨a3, e3, k3⟩ := ofStr g3
    obtain ⟨a4, e4, k4, m4⟩ := ofInt g4
    obtain ⟨a5, e5, k5, m5⟩ := ofInt g5
    obtain ⟨a6, e6, k6⟩ := ofStr g6
    obtain ⟨a7, e7, k7⟩ := ofStr g7
    simp at e0 e1 e2 e3 e4 e5 e6 e7
    subst e0 e1 e2 e3 e4 e5 e6 e7
    exact ⟨(a0, a1, a2, a3, a4, a5, a6, a7), Go.Proofs.YtigkkelaadbhcabGreat.cs [.string a0, .int .i64 a1, .string a2, .string a3, .int .i64 a4, .int .i64 a5, .string a6, .string a7], at_DRecPhase.2 ⟨⟨rfl, k0⟩, ⟨rfl, k1, m1⟩, ⟨rfl, k2⟩, ⟨rfl, k3⟩, ⟨rfl, k4, m4⟩, ⟨rfl, k5, m5⟩, ⟨rfl, k6⟩, ⟨rfl, k7⟩⟩, fun j hj => by
      rw [width_DRecPhase] at hj
      rcases (show j = 0 ∨ j = 1 ∨ j = 2 ∨ j = 3 ∨ j = 4 ∨ j = 5 ∨ j = 6 ∨ j = 7 by omega) with rfl | rfl | rfl | rfl | rfl | rfl | rfl | rfl <;> rfl⟩
theorem ofDRunSlot {n : Nat} {cs : List Value} {y : DataW H × List MemPlace} (hl : cs.length = 2) (hy : DataW.trod enc Tryz.prog w base spare held n 141 cs = some y) : ∃ (a : DRunSlot) (c : Nat → Value), Lay.At (fun b => b < w.heap.size) w a c ∧ ∀ j, j < Lay.width DRunSlot → cs[j]? = some (c j) := by
  match cs, hl with
  | [x0, x1], _ =>
    obtain ⟨xs, m, _, _, _, hlen, hf⟩ := DataW.trod_struct Tryz.underlying141 hy
    have g0 : DataW.trod enc Tryz.prog w base spare held m 9 [x0] = xs[0]? := by simpa [cStr] using hf 0 _ rfl
    have g1 : DataW.trod enc Tryz.prog w base spare held m 9 [x1] = xs[1]? := by simpa [cStr] using hf 1 _ rfl
    rw [List.getElem?_eq_getElem (by rw [hlen]; decide)] at g0 g1
    obtain ⟨a0, e0, k0⟩ := ofStr g0
    obtain ⟨a1, e1, k1⟩ := ofStr g1
    simp at e0 e1
    subst e0 e1
    exact ⟨(a0, a1), Go.Proofs.YtigkkelaadbhcabGreat.cs [.string a0, .string a1], at_DRunSlot.2 ⟨⟨rfl, k0⟩, ⟨rfl, k1⟩⟩, fun j hj => by
      rw [width_DRunSlot] at hj
      rcases (show j = 0 ∨ j = 1 by omega) with rfl | rfl <;> rfl⟩
theorem ofLRecPhase {fuel : Nat} {v : Value} {x : DataW H × List MemPlace} (h : DataW.trod enc Tryz.prog w base spare held fuel 72 [v] = some x) : ∃ l : List DRecPhase, AtL (fun b => b < w.heap.size) w l v :=
  of_list (α := DRecPhase) Tryz.underlying72 cDRecPhase (by rw [width_DRecPhase]; omega) (fun n cs y hl hy => ofDRecPhase (by simpa [width_DRecPhase] using hl) hy) h
theorem ofLRunSlot {fuel : Nat} {v : Value} {x : DataW H × List MemPlace} (h : DataW.trod enc Tryz.prog w base spare held fuel 73 [v] = some x) : ∃ l : List DRunSlot, AtL (fun b => b < w.heap.size) w l v :=
  of_list (α := DRunSlot) Tryz.underlying73 cDRunSlot (by rw [width_DRunSlot]; omega) (fun n cs y hl hy => ofDRunSlot (by simpa [width_DRunSlot] using hl) hy) h
theorem ofDRunBatch {n : Nat} {cs : List Value} {y : DataW H × List MemPlace} (hl : cs.length = 6) (hy : DataW.trod enc Tryz.prog w base spare held n 75 cs = some y) : ∃ (a : DRunBatch) (c : Nat → Value), Lay.At (fun b => b < w.heap.size) w a c ∧ ∀ j, j < Lay.width DRunBatch → cs[j]? = some (c j) := by
  match cs, hl with
  | [x0, x1, x2, x3, x4, x5], _ =>
    obtain ⟨xs, m, _, _, _, hlen, hf⟩ := DataW.trod_struct Tryz.underlying75 hy
    have g0 : DataW.trod enc Tryz.prog w base spare held m 9 [x0] = xs[0]? := by simpa [cStr, cInt, cLRecPhase, cLRunSlot] using hf 0 _ rfl
    have g1 : DataW.trod enc Tryz.prog w base spare held m 72 [x1] = xs[1]? := by simpa [cStr, cInt, cLRecPhase, cLRunSlot] using hf 1 _ rfl
    have g2 : DataW.trod enc Tryz.prog w base spare held m 73 [x2] = xs[2]? := by simpa [cStr, cInt, cLRecPhase, cLRunSlot] using hf 2 _ rfl
    have g3 : DataW.trod enc Tryz.prog w base spare held m 9 [x3] = xs[3]? := by simpa [cStr, cInt, cLRecPhase, cLRunSlot] using hf 3 _ rfl
    have g4 : DataW.trod enc Tryz.prog w base spare held m 3 [x4] = xs[4]? := by simpa [cStr, cInt, cLRecPhase, cLRunSlot] using hf 4 _ rfl
    have g5 : DataW.trod enc Tryz.prog w base spare held m 3 [x5] = xs[5]? := by simpa [cStr, cInt, cLRecPhase, cLRunSlot] using hf 5 _ rfl
    rw [List.getElem?_eq_getElem (by rw [hlen]; decide)] at g0 g1 g2 g3 g4 g5
    obtain ⟨a0, e0, k0⟩ := ofStr g0
    obtain ⟨a1, k1⟩ := ofLRecPhase g1
    obtain ⟨a2, k2⟩ := ofLRunSlot g2
    obtain ⟨a3, e3, k3⟩ := ofStr g3
    obtain ⟨a4, e4, k4, m4⟩ := ofInt g4
    obtain ⟨a5, e5, k5, m5⟩ := ofInt g5
    simp at e0 e3 e4 e5
    subst e0 e3 e4 e5
    exact ⟨(a0, a1, a2, a3, a4, a5), Go.Proofs.YtigkkelaadbhcabGreat.cs [.string a0, x1, x2, .string a3, .int .i64 a4, .int .i64 a5], at_DRunBatch.2 ⟨⟨rfl, k0⟩, k1, k2, ⟨rfl, k3⟩, ⟨rfl, k4, m4⟩, ⟨rfl, k5, m5⟩⟩, fun j hj => by
      rw [width_DRunBatch] at hj
      rcases (show j = 0 ∨ j = 1 ∨ j = 2 ∨ j = 3 ∨ j = 4 ∨ j = 5 by omega) with rfl | rfl | rfl | rfl | rfl | rfl <;> rfl⟩
theorem ofLStr {fuel : Nat} {v : Value} {x : DataW H × List MemPlace} (h : DataW.trod enc Tryz.prog w base spare held fuel 22 [v] = some x) : ∃ l : List ByteArray, AtL (fun b => b < w.heap.size) w l v :=
  of_list (α := ByteArray) Tryz.underlying22 cStr (Nat.le_refl _) (fun n cs y hl hy => by
    obtain ⟨a, rfl, ha⟩ := ofStr hy
    exact ⟨a, Go.Proofs.YtigkkelaadbhcabGreat.cs [.string a], ⟨rfl, ha⟩, fun j hj => by
      have e : j = 0 := by simpa [width_str] using hj
      subst e; rfl⟩) h
theorem ofDShareBatch {n : Nat} {cs : List Value} {y : DataW H × List MemPlace} (hl : cs.length = 3) (hy : DataW.trod enc Tryz.prog w base spare held n 100 cs = some y) : ∃ (a : DShareBatch) (c : Nat → Value), Lay.At (fun b => b < w.heap.size) w a c ∧ ∀ j, j < Lay.width DShareBatch → cs[j]? = some (c j) := by
  match cs, hl with
  | [x0, x1, x2], _ =>
    obtain ⟨xs, m, _, _, _, hlen, hf⟩ := DataW.trod_struct Tryz.underlying100 hy
    have g0 : DataW.trod enc Tryz.prog w base spare held m 9 [x0] = xs[0]? := by simpa [cStr, cLStr] using hf 0 _ rfl
    have g1 : DataW.trod enc Tryz.prog w base spare held m 22 [x1] = xs[1]? := by simpa [cStr, cLStr] using hf 1 _ rfl
    have g2 : DataW.trod enc Tryz.prog w base spare held m 22 [x2] = xs[2]? := by simpa [cStr, cLStr] using hf 2 _ rfl
    rw [List.getElem?_eq_getElem (by rw [hlen]; decide)] at g0 g1 g2
    obtain ⟨a0, e0, k0⟩ := ofStr g0
    obtain ⟨a1, k1⟩ := ofLStr g1
    obtain ⟨a2, k2⟩ := ofLStr g2
    simp at e0
    subst e0
    exact ⟨(a0, a1, a2), Go.Proofs.YtigkkelaadbhcabGreat.cs [.string a0, x1, x2], at_DShareBatch.2 ⟨⟨rfl, k0⟩, k1, k2⟩, fun j hj => by
      rw [width_DShareBatch] at hj
      rcases (show j = 0 ∨ j = 1 ∨ j = 2 by omega) with rfl | rfl | rfl <;> rfl⟩
theorem ofLShareBatch {fuel : Nat} {v : Value} {x : DataW H × List MemPlace} (h : DataW.trod enc Tryz.prog w base spare held fuel 23 [v] = some x) : ∃ l : List DShareBatch, AtL (fun b => b < w.heap.size) w l v :=
  of_list (α := DShareBatch) Tryz.underlying23 cDShareBatch (by rw [width_DShareBatch]; omega) (fun n cs y hl hy => ofDShareBatch (by simpa [width_DShareBatch] using hl) hy) h
theorem ofDShareBook {n : Nat} {cs : List Value} {y : DataW H × List MemPlace} (hl : cs.length = 2) (hy : DataW.trod enc Tryz.prog w base spare held n 25 cs = some y) : ∃ (a : DShareBook) (c : Nat → Value), Lay.At (fun b => b < w.heap.size) w a c ∧ ∀ j, j < Lay.width DShareBook → cs[j]? = some (c j) := by
  match cs, hl with
  | [x0, x1], _ =>
    obtain ⟨xs, m, _, _, _, hlen, hf⟩ := DataW.trod_struct Tryz.underlying25 hy
    have g0 : DataW.trod enc Tryz.prog w base spare held m 22 [x0] = xs[0]? := by simpa [cStr, cLStr, cLShareBatch] using hf 0 _ rfl
    have g1 : DataW.trod enc Tryz.prog w base spare held m 23 [x1] = xs[1]? := by simpa [cStr, cLStr, cLShareBatch] using hf 1 _ rfl
    rw [List.getElem?_eq_getElem (by rw [hlen]; decide)] at g0 g1
    obtain ⟨a0, k0⟩ := ofLStr g0
    obtain ⟨a1, k1⟩ := ofLShareBatch g1
    exact ⟨(a0, a1), Go.Proofs.YtigkkelaadbhcabGreat.cs [x0, x1], at_DShareBook.2 ⟨k0, k1⟩, fun j hj => by
      rw [width_DShareBook] at hj
      rcases (show j = 0 ∨ j = 1 by omega) with rfl | rfl <;> rfl⟩
theorem ofDRunDone {n : Nat} {cs : List Value} {y : DataW H × List MemPlace} (hl : cs.length = 3) (hy : DataW.trod enc Tryz.prog w base spare held n 78 cs = some y) : ∃ (a : DRunDone) (c : Nat → Value), Lay.At (fun b => b < w.heap.size) w a c ∧ ∀ j, j < Lay.width DRunDone → cs[j]? = some (c j) := by
  match cs, hl with
  | [x0, x1, x2], _ =>
    obtain ⟨xs, m, _, _, _, hlen, hf⟩ := DataW.trod_struct Tryz.underlying78 hy
    have g0 : DataW.trod enc Tryz.prog w base spare held m 9 [x0] = xs[0]? := by simpa [cStr, cInt] using hf 0 _ rfl
    have g1 : DataW.trod enc Tryz.prog w base spare held m 3 [x1] = xs[1]? := by simpa [cStr, cInt] using hf 1 _ rfl
    have g2 : DataW.trod enc Tryz.prog w base spare held m 3 [x2] = xs[2]? := by simpa [cStr, cInt] using hf 2 _ rfl
    rw [List.getElem?_eq_getElem (by rw [hlen]; decide)] at g0 g1 g2
    obtain ⟨a0, e0, k0⟩ := ofStr g0
    obtain ⟨a1, e1, k1, m1⟩ := ofInt g1
    obtain ⟨a2, e2, k2, m2⟩ := ofInt g2
    simp at e0 e1 e2
    subst e0 e1 e2
    exact ⟨(a0, a1, a2), Go.Proofs.YtigkkelaadbhcabGreat.cs [.string a0, .int .i64 a1, .int .i64 a2], at_DRunDone.2 ⟨⟨rfl, k0⟩, ⟨rfl, k1, m1⟩, ⟨rfl, k2, m2⟩⟩, fun j hj => by
      rw [width_DRunDone] at hj
      rcases (show j = 0 ∨ j = 1 ∨ j = 2 by omega) with rfl | rfl | rfl <;> rfl⟩
theorem ofLRunBatch {fuel : Nat} {v : Value} {x : DataW H × List MemPlace} (h : DataW.trod enc Tryz.prog w base spare held fuel 26 [v] = some x) : ∃ l : List DRunBatch, AtL (fun b => b < w.heap.size) w l v :=
  of_list (α := DRunBatch) Tryz.underlying26 cDRunBatch (by rw [width_DRunBatch]; omega) (fun n cs y hl hy => ofDRunBatch (by simpa [width_DRunBatch] using hl) hy) h
theorem ofLRunDone {fuel : Nat} {v : Value} {x : DataW H × List MemPlace} (h : DataW.trod enc Tryz.prog w base spare held fuel 27 [v] = some x) : ∃ l : List DRunDone, AtL (fun b => b < w.heap.size) w l v :=
  of_list (α := DRunDone) Tryz.underlying27 cDRunDone (by rw [width_DRunDone]; omega) (fun n cs y hl hy => ofDRunDone (by simpa [width_DRunDone] using hl) hy) h
theorem ofDRunHouse {n : Nat} {cs : List Value} {y : DataW H × List MemPlace} (hl : cs.length = 6) (hy : DataW.trod enc Tryz.prog w base spare held n 29 cs = some y) : ∃ (a : DRunHouse) (c : Nat → Value), Lay.At (fun b => b < w.heap.size) w a c ∧ ∀ j, j < Lay.width DRunHouse → cs[j]? = some (c j) := by
  match cs, hl with
  | [x0, x1, x2, x3, x4, x5], _ =>
    obtain ⟨xs, m, _, _, _, hlen, hf⟩ := DataW.trod_struct Tryz.underlying29 hy
    have g0 : DataW.trod enc Tryz.prog w base spare held m 3 [x0] = xs[0]? := by simpa [cStr, cInt, cLStr, cLRunBatch, cLRunDone, cLShareBatch, cDShareBook] using hf 0 _ rfl
    have g1 : DataW.trod enc Tryz.prog w base spare held m 3 [x1] = xs[1]? := by simpa [cStr, cInt, cLStr, cLRunBatch, cLRunDone, cLShareBatch, cDShareBook] using hf 1 _ rfl
    have g2 : DataW.trod enc Tryz.prog w base spare held m 25 [x2, x3] = xs[2]? := by simpa [cStr, cInt, cLStr, cLRunBatch, cLRunDone, cLShareBatch, cDShareBook] using hf 2 _ rfl
    have g3 : DataW.trod enc Tryz.prog w base spare held m 26 [x4] = xs[3]? := by simpa [cStr, cInt, cLStr, cLRunBatch, cLRunDone, cLShareBatch, cDShareBook] using hf 3 _ rfl
    have g4 : DataW.trod enc Tryz.prog w base spare held m 27 [x5] = xs[4]? := by simpa [cStr, cInt, cLStr, cLRunBatch, cLRunDone, cLShareBatch, cDShareBook] using hf 4 _ rfl
    rw [List.getElem?_eq_getElem (by rw [hlen]; decide)] at g0 g1 g2 g3 g4
    obtain ⟨a0, e0, k0, m0⟩ := ofInt g0
    obtain ⟨a1, e1, k1, m1⟩ := ofInt g1
    obtain ⟨⟨a2, a3⟩, c23, k23, hc⟩ := ofDShareBook rfl g2
    obtain ⟨k2, k3⟩ := at_DShareBook.1 k23
    obtain rfl : x2 = c23 0 := Option.some.inj (hc 0 (by decide))
    obtain rfl : x3 = c23 1 := Option.some.inj (hc 1 (by decide))
    obtain ⟨a4, k4⟩ := ofLRunBatch g3
    obtain ⟨a5, k5⟩ := ofLRunDone g4
    simp at e0 e1
    subst e0 e1
    exact ⟨(a0, a1, a2, a3, a4, a5), Go.Proofs.YtigkkelaadbhcabGreat.cs [.int .i64 a0, .int .i64 a1, c23 0, c23 1, x4, x5], at_DRunHouse.2 ⟨⟨rfl, k0, m0⟩, ⟨rfl, k1, m1⟩, k2, k3, k4, k5⟩, fun j hj => by
      rw [width_DRunHouse] at hj
      rcases (show j = 0 ∨ j = 1 ∨ j = 2 ∨ j = 3 ∨ j = 4 ∨ j = 5 by omega) with rfl | rfl | rfl | rfl | rfl | rfl <;> rfl⟩
set_option maxRecDepth 100000 in
theorem ofRunHouse {r : Reach} {b0 : Nat} {v : Value} {d : DataW H} {p : List MemPlace} (hv : Value.okWide Tryz.prog w r b0 29 v) (h : DataW.Trod enc Tryz.prog w base spare held 29 v d p) :
    ∃ (a : DRunHouse) (c : Nat → Value), v = .agg #[c 0, c 1, c 2, c 3, c 4, c 5] ∧ Lay.At (fun b => b < w.heap.size) w a c := by
  obtain ⟨cs, rfl, hsz⟩ := okWide_struct Tryz.underlying29 hv
  obtain ⟨m, hm⟩ := h
  have hl : cs.toList.length = 6 := by rw [Array.length_toList]; exact hsz.trans cDRunHouse
  obtain ⟨a, c, hat, hc⟩ := ofDRunHouse hl hm
  refine ⟨a, c, ?_, hat⟩
  congr 1
  apply Array.ext
  · rw [hsz]; exact cDRunHouse
  · intro j h1 h2
    have h3 : j < 6 := by have := hsz.trans cDRunHouse; omega
    have := hc j (by rw [width_DRunHouse]; exact h3)
    rw [Array.getElem?_toList, Array.getElem?_eq_getElem h1] at this
    rw [Option.some.inj this]
    rcases (show j = 0 ∨ j = 1 ∨ j = 2 ∨ j = 3 ∨ j = 4 ∨ j = 5 by omega) with rfl | rfl | rfl | rfl | rfl | rfl <;> rfl
end
end Go.Proofs.YtigkkelaadbhcabGreat

namespace Go.Proofs.YtigkkelaadbhcabGreat
open Go.RowKit
structure But (S : Nat → Prop) (w w' : World) : Prop where
  os : w'.os = w.os
  tape : w'.tape = w.tape
  output : w'.output = w.output
  size : w.heap.size ≤ w'.heap.size
  block : ∀ b, b < w.heap.size → ¬ S b → w'.heap[b]? = w.heap[b]?
theorem But.refl (S : Nat → Prop) (w : World) : But S w w := ⟨rfl, rfl, rfl, Nat.le_refl _, fun _ _ _ => rfl⟩
theorem But.trans {S : Nat → Prop} {a b c : World} (h : But S a b) (k : But S b c) : But S a c :=
  ⟨k.os.trans h.os, k.tape.trans h.tape, k.output.trans h.output, Nat.le_trans h.size k.size, fun i hi hn => (k.block i (Nat.lt_of_lt_of_le hi h.size) hn).trans (h.block i hi hn)⟩
theorem But.of_below {S : Nat → Prop} {w w' : World} (h : Below w.heap.size w w') : But S w w' := ⟨h.os, h.tape, h.output, h.size, fun b hb _ => h.block b hb⟩
theorem But.up {S S' : Nat → Prop} {w w' : World} (h : But S w w') (e : ∀ b, S b → S' b) : But S' w w' := ⟨h.os, h.tape, h.output, h.size, fun b hb hn => h.block b hb (fun hs => hn (e b hs))⟩
theorem But.below {S : Nat → Prop} {B : Nat} {w w' : World} (h : But S w w') (hS : ∀ b, S b → B ≤ b) (hB : B ≤ w.heap.size) : Below B w w' := ⟨h.os, h.tape, h.output, h.size, fun b hb => h.block b (by omega) (fun hs => by have := hS b hs; omega)⟩
theorem But.of_low {S : Nat → Prop} {B : Nat} {w w' : World} (h : Below B w w') (hB : ∀ b, b < w.heap.size → ¬ S b → w'.heap[b]? = w.heap[b]?) : But S w w' := ⟨h.os, h.tape, h.output, h.size, hB⟩
theorem But.set {S : Nat → Prop} {a w : World} (h : But S a w) {g : Nat} (hg : S g) (i : Nat) (x : Value) : But S a (w.setCell ⟨g, i, none⟩ x) := by
  have hb := (Below.refl g w).setCell (p := ⟨g, i, none⟩) (Nat.le_refl _) x
  exact h.trans (But.of_low hb (fun b _ hn => Below.heap_setCell w _ x b (fun e => hn (by have : b = g := e; rw [this]; exact hg))))
theorem But.same {S T : Nat → Prop} {w w' : World} (h : But S w w') (hT : ∀ b, T b → b < w.heap.size ∧ ¬ S b) : Same T w w' := fun b hb => h.block b (hT b hb).1 (hT b hb).2
def dgO : Nat → Int → ByteArray → ByteArray
  | 0, _, t => t
  | n + 1, k, t => if 0 < k then dgO n (k / 10) (⟨#[UInt8.ofNat (48 + k % 10).toNat]⟩ ++ t) else t
def mkO (k : Int) : ByteArray := ⟨#[109]⟩ ++ dgO 20 k ⟨#[]⟩
theorem dgO_end (n : Nat) (k : Int) (t : ByteArray) (h : ¬ 0 < k) : dgO n k t = t := by
  cases n with
  | zero => rfl
  | succ n => simp [dgO, h]
theorem dgO_size : ∀ (n : Nat) (k : Int) (t : ByteArray), (dgO n k t).size ≤ n + t.size
  | 0, _, t => by simp [dgO]
  | n + 1, k, t => by
    unfold dgO
    split
    · have h := dgO_size n (k / 10) (⟨#[UInt8.ofNat (48 + k % 10).toNat]⟩ ++ t)
      have e1 : (⟨#[UInt8.ofNat (48 + k % 10).toNat]⟩ : ByteArray).size = 1 := rfl
      rw [ByteArray.size_append, e1] at h
      omega
    · omega
theorem mkO_size (k : Int) : (mkO k).size ≤ 21 := by
  have h := dgO_size 20 k ⟨#[]⟩
  have e1 : (⟨#[109]⟩ : ByteArray).size = 1 := rfl
  have e0 : (⟨#[]⟩ : ByteArray).size = 0 := rfl
  unfold mkO
  rw [ByteArray.size_append, e1]
  omega
class Own (α : Type) extends Lay α where
  On : (Nat → Prop) → World → α → (Nat → Value) → Prop
  cnt : α → Nat
  mkD : Int → α → α
  on_at : ∀ {S : Nat → Prop} {w : World} {a : α} {c : Nat → Value}, On S w a c → Lay.At S w a c
  on_same : ∀ {S : Nat → Prop} {w w' : World} {a : α} {c : Nat → Value}, On S w a c → Same S w w' → On S w' a c
  on_up : ∀ {S S' : Nat → Prop} {w : World} {a : α} {c : Nat → Value}, On S w a c → (∀ b, S b → S' b) → On S' w a c
  on_ext : ∀ {S : Nat → Prop} {w : World} {a : α} {c c' : Nat → Value}, On S w a c → (∀ j, j < width → c' j = c j) → On S w a c'
instance : Own ByteArray where
  On := fun S w a c => Lay.At S w a c
  cnt := fun _ => 1
  mkD := fun k _ => mkO k
  on_at := fun h => h
  on_same := fun h e => Lay.same h e
  on_up := fun h e => Lay.up h e
  on_ext := fun h e => Lay.ext h e
instance : Own Int where
  On := fun S w a c => Lay.At S w a c
  cnt := fun _ => 1
  mkD := fun k _ => k
  on_at := fun h => h
  on_same := fun h e => Lay.same h e
  on_up := fun h e => Lay.up h e
  on_ext := fun h e => Lay.ext h e
instance {α β : Type} [Own α] [Own β] : Own (α × β) where
  On := fun S w a c => ∃ S1 S2 : Nat → Prop, (∀ b, S1 b → S b ∧ ¬ S2 b) ∧ (∀ b, S2 b → S b) ∧ Own.On S1 w a.1 c ∧ Own.On S2 w a.2 (fun j => c (Lay.width α + j))
  cnt := fun a => Own.cnt a.1 + Own.cnt a.2
  mkD := fun k a => (Own.mkD k a.1, Own.mkD (k + Own.cnt a.1) a.2)
  on_at := fun ⟨_, _, h1, h2, ha, hb⟩ => ⟨Lay.up (Own.on_at ha) (fun b hb => (h1 b hb).1), Lay.up (Own.on_at hb) h2⟩
  on_same := fun ⟨S1, S2, h1, h2, ha, hb⟩ e => ⟨S1, S2, h1, h2, Own.on_same ha (fun b hb => e b (h1 b hb).1), Own.on_same hb (fun b hb => e b (h2 b hb))⟩
  on_up := fun ⟨S1, S2, h1, h2, ha, hb⟩ e => ⟨S1, S2, fun b hb => ⟨e b (h1 b hb).1, (h1 b hb).2⟩, fun b hb => e b (h2 b hb), ha, hb⟩
  on_ext := fun ⟨S1, S2, h1, h2, ha, hb⟩ e => ⟨S1, S2, h1, h2, Own.on_ext ha (fun j hj => e j (by show j < Lay.width _ + Lay.width _; omega)), Own.on_ext hb (fun j hj => e _ (by show _ < Lay.width _ + Lay.width _; omega))⟩
structure Els {α : Type} [Own α] (S : Nat → Prop) (w : World) (g off : Nat) (Ss : Nat → Nat → Prop) (cur : Array Value) (t : TypeId) (n : Nat) (f : Nat → α) : Prop where
  row : w.heap[g]? = some (.cells cur t (0, 0))
  own : S g
  sub : ∀ i b, Ss i b → S b ∧ b ≠ g
  dis : ∀ i j b, Ss i b → Ss j b → i = j
  el : ∀ i, i < n → ∃ c : Nat → Value, (∀ j, j < Lay.width α → cur[off + i * Lay.width α + j]? = some (c j)) ∧ Own.On (Ss i) w (f i) c
def OnL {α : Type} [Own α] (S : Nat → Prop) (w : World) (l : List α) (v : Value) : Prop :=
  ∃ oa cap, v = .slice oa l.length cap ∧ (l.length ≤ maxLen ∧ l.length ≤ cap ∧ Hid (oa = none → cap = 0)) ∧ (l = [] ∨ ∃ g off Ss cur t, oa = some ⟨g, off, none⟩ ∧ ∃ f : Nat → α, (∀ i (h : i < l.length), f i = l[i]) ∧ Els S w g off Ss cur t l.length f)
section
variable {α : Type} [Own α]
theorem Els.same {S : Nat → Prop} {w w' : World} {g off : Nat} {Ss : Nat → Nat → Prop} {cur : Array Value} {t : TypeId} {n : Nat} {f : Nat → α} (h : Els S w g off Ss cur t n f) (e : Same S w w') : Els S w' g off Ss cur t n f :=
  ⟨(e g h.own).trans h.row, h.own, h.sub, h.dis, fun i hi => by
    obtain ⟨c, h1, h2⟩ := h.el i hi
    exact ⟨c, h1, Own.on_same h2 (fun b hb => e b (h.sub i b hb).1)⟩⟩
theorem Els.up {S S' : Nat → Prop} {w : World} {g off : Nat} {Ss : Nat → Nat → Prop} {cur : Array Value} {t : TypeId} {n : Nat} {f : Nat → α} (h : Els S w g off Ss cur t n f) (e : ∀ b, S b → S' b) : Els S' w g off Ss cur t n f :=
  ⟨h.row, e g h.own, fun i b hb => ⟨e b (h.sub i b hb).1, (h.sub i b hb).2⟩, h.dis, h.el⟩
theorem OnL.same {S : Nat → Prop} {w w' : World} {l : List α} {v : Value} (h : OnL S w l v) (e : Same S w w') : OnL S w' l v := by
  obtain ⟨oa, cap, hv, hn, h⟩ := h
  refine ⟨oa, cap, hv, hn, h.imp id ?_⟩
  rintro ⟨g, off, Ss, cur, t, ho, f, hf, h⟩
  exact ⟨g, off, Ss, cur, t, ho, f, hf, h.same e⟩
theorem OnL.up {S S' : Nat → Prop} {w : World} {l : List α} {v : Value} (h : OnL S w l v) (e : ∀ b, S b → S' b) : OnL S' w l v := by
  obtain ⟨oa, cap, hv, hn, h⟩ := h
  refine ⟨oa, cap, hv, hn, h.imp id ?_⟩
  rintro ⟨g, off, Ss, cur, t, ho, f, hf, h⟩
  exact ⟨g, off, Ss, cur, t, ho, f, hf, h.up e⟩
theorem OnL.at_ {S : Nat → Prop} {w : World} {l : List α} {v : Value} (h : OnL S w l v) : AtL S w l v := by
  obtain ⟨oa, cap, hv, hn, h⟩ := h
  refine ⟨oa, cap, hv, hn, fun i hi => ?_⟩
  rcases h with h | ⟨g, off, Ss, cur, t, ho, f, hf, h⟩
  · subst h; exact absurd hi (Nat.not_lt_zero _)
  · obtain ⟨c, h1, h2⟩ := h.el i hi
    refine ⟨g, off, ho, h.own, c, fun j hj => (cell_row h.row _ _ (h1 j hj)).1, ?_⟩
    rw [← hf i hi]
    exact Lay.up (Own.on_at h2) (fun b hb => (h.sub i b hb).1)
def cntTo (l : List α) (k : Nat) : Nat := ((l.take k).map Own.cnt).sum
def cntL (l : List α) : Nat := cntTo l l.length
def mkL : Int → List α → List α
  | _, [] => []
  | k, x :: l => Own.mkD k x :: mkL (k + Own.cnt x) l
theorem mkL_len : ∀ (k : Int) (l : List α), (mkL k l).length = l.length
  | _, [] => rfl
  | k, x :: l => by simp [mkL, mkL_len]
theorem cntTo_zero (l : List α) : cntTo l 0 = 0 := by simp [cntTo]
theorem cntTo_succ (l : List α) (k : Nat) (h : k < l.length) : cntTo l (k + 1) = cntTo l k + Own.cnt l[k] := by
  simp only [cntTo]
  rw [List.take_add_one, List.getElem?_eq_getElem h, List.map_append, List.sum_append]
  rfl
theorem mkL_at : ∀ (k : Int) (l : List α) (i : Nat) (h : i < l.length), (mkL k l)[i]'(by rw [mkL_len]; exact h) = Own.mkD (k + cntTo l i) l[i]
  | _, [], _, h => absurd h (Nat.not_lt_zero _)
  | k, x :: l, 0, _ => by simp [mkL, cntTo]
  | k, x :: l, i + 1, h => by
    have h' := mkL_at (k + Own.cnt x) l i (by simpa using h)
    simp only [mkL, List.getElem_cons_succ]
    rw [h']
    congr 1
    simp only [cntTo, List.take_succ_cons, List.map_cons, List.sum_cons]
    omega
end
instance {α : Type} [Own α] : Own (List α) where
  On := fun S w l c => OnL S w l (c 0)
  cnt := cntL
  mkD := mkL
  on_at := fun h => OnL.at_ h
  on_same := fun h e => OnL.same h e
  on_up := fun h e => OnL.up h e
  on_ext := fun h e => by rw [e 0 (Nat.zero_lt_one)]; exact h
end Go.Proofs.YtigkkelaadbhcabGreat
