/-
  From a value of the law's type that can be read to its data in memory.
-/
import Derived.Test.YthleodbbppgadaaGreatLa
import Derived.Deep.Slices
import Derived.Lib.SmallJoins
import Derived.ProofKit
namespace Go.Proofs.YthleodbbppgadaaGreat
open Go.ChangeShapes Go.WideShapes Go.ChangeAt Go.RowKit

theorem cStr : Tryz.prog.cellsOf 9 = 1 := by kernel_rfl
theorem cInt : Tryz.prog.cellsOf 3 = 1 := by kernel_rfl
theorem cLStuffPart : Tryz.prog.cellsOf 83 = 1 := by kernel_rfl
theorem cLStr : Tryz.prog.cellsOf 29 = 1 := by kernel_rfl
theorem cLStuffFoe : Tryz.prog.cellsOf 22 = 1 := by kernel_rfl
theorem cLStuffLot : Tryz.prog.cellsOf 23 = 1 := by kernel_rfl
theorem cLStuffVessel : Tryz.prog.cellsOf 24 = 1 := by kernel_rfl
theorem cLStuffOut : Tryz.prog.cellsOf 25 = 1 := by kernel_rfl
theorem cDStuffFoe : Tryz.prog.cellsOf 78 = 2 := by kernel_rfl
theorem cDStuffLot : Tryz.prog.cellsOf 81 = 2 := by kernel_rfl
theorem cDStuffPart : Tryz.prog.cellsOf 168 = 2 := by kernel_rfl
theorem cDStuffVessel : Tryz.prog.cellsOf 85 = 4 := by kernel_rfl
theorem cDStuffOut : Tryz.prog.cellsOf 88 = 3 := by kernel_rfl
theorem cDStuffBook : Tryz.prog.cellsOf 27 = 4 := by kernel_rfl

section
variable {H : Type} {enc : TypeId × Value → H} {w : World} {base : Nat} {spare : Nat → Bool} {held : Bool}

/-- A list that can be read, if each element can. -/
theorem of_list {t e : TypeId} {fuel : Nat} {v : Value} {x : DataW H × List MemPlace} {α : Type} [Lay α] [Inhabited α] (ht : Tryz.prog.underlying t = some (.slice e)) (hk : Tryz.prog.cellsOf e = Lay.width α) (hk1 : 1 ≤ Lay.width α)
    (hel : ∀ n cs y, cs.length = Lay.width α → DataW.trod enc Tryz.prog w base spare held n e cs = some y → ∃ (a : α) (c : Nat → Value), Lay.At (fun b => b < w.heap.size) w a c ∧ ∀ j, j < Lay.width α → cs[j]? = some (c j))
    (h : DataW.trod enc Tryz.prog w base spare held fuel t [v] = some x) : ∃ l : List α, AtL (fun b => b < w.heap.size) w l v := by
  rcases Deep.open_slice ht h with ⟨h1, _⟩ | ⟨a, len, cap, m, n, D, Pl, h1, hb, hl, hm, hmm, _, hx⟩
  · simp at h1; subst h1
    exact ⟨[], none, 0, rfl, ⟨Nat.zero_le _, Nat.le_refl _, fun _ => rfl⟩, fun i hi => by simp at hi⟩
  · simp at h1; subst h1
    have hle : len ≤ m := by rw [hmm]; split <;> omega
    obtain ⟨f, hf⟩ := Deep.choose_lt (α := α × (Nat → Value)) (n := len) (p := fun i z => Lay.At (fun b => b < w.heap.size) w z.1 z.2 ∧ ∀ j, j < Lay.width α → w.cell? ((a.add (i * Lay.width α)).add j) = some (z.2 j)) (fun i hi => by
      obtain ⟨cs', h2, h3⟩ := hx i (by omega)
      rw [hk] at h2
      obtain ⟨_, h4, h5⟩ := World.cells?_some h2
      obtain ⟨a', c', hq, h6⟩ := hel n cs' _ h4 h3
      exact ⟨(a', c'), hq, fun j hj => (h5 j hj).trans (h6 j hj)⟩)
    refine ⟨List.ofFn (fun i : Fin len => (f i).1), some a, cap, by simp, ⟨by simp; omega, by rw [List.length_ofFn]; omega, fun h => nomatch h⟩, fun i hi => ?_⟩
    have hil : i < len := by simpa using hi
    have h0 := (hf 0 (by omega)).2 0 hk1
    have hsp : a.spot = none := by
      have h7 := World.cell?_spot h0
      simpa [Addr.add] using h7
    obtain ⟨b, off, sp⟩ := a
    simp only at hsp
    subst hsp
    refine ⟨b, off, rfl, ?_, (f i).2, fun j hj => ?_, ?_⟩
    · exact World.block_lt_of_cell? w _ (by simpa [add_plain] using h0)
    · have h8 := (hf i hil).2 j hj
      rw [add_plain, add_plain] at h8
      exact h8
    · rw [List.getElem_ofFn]
      exact (hf i hil).1

theorem ofStr {n : Nat} {cs : List Value} {y : DataW H × List MemPlace} (h : DataW.trod enc Tryz.prog w base spare held n 9 cs = some y) : ∃ a : ByteArray, cs = [.string a] ∧ a.size ≤ maxLen := by
  obtain ⟨s, h1, _, h2⟩ := DataW.trod_string Tryz.underlying9 h
  exact ⟨s, h1, h2⟩
theorem ofInt {n : Nat} {cs : List Value} {y : DataW H × List MemPlace} (h : DataW.trod enc Tryz.prog w base spare held n 3 cs = some y) : ∃ a : Int, cs = [.int .i64 a] ∧ -9223372036854775808 ≤ a ∧ a ≤ 9223372036854775807 := by
  obtain ⟨s, h1, _, h2⟩ := DataW.trod_int Tryz.underlying3 h
  refine ⟨s, h1, ?_⟩
  have e1 : IntKind.i64.min = -9223372036854775808 := by decide
  have e2 : IntKind.i64.max = 9223372036854775807 := by decide
  simp [Lit.wf] at h2
  omega
theorem ofDStuffFoe {n : Nat} {cs : List Value} {y : DataW H × List MemPlace} (hl : cs.length = 2) (hy : DataW.trod enc Tryz.prog w base spare held n 78 cs = some y) : ∃ (a : DStuffFoe) (c : Nat → Value), Lay.At (fun b => b < w.heap.size) w a c ∧ ∀ j, j < Lay.width DStuffFoe → cs[j]? = some (c j) := by
  match cs, hl with
  | [x0, x1], _ =>
    obtain ⟨xs, m, _, _, _, hlen, hf⟩ := DataW.trod_struct Tryz.underlying78 hy
    have g0 : DataW.trod enc Tryz.prog w base spare held m 9 [x0] = xs[0]? := by simpa [cStr] using hf 0 _ rfl
    have g1 : DataW.trod enc Tryz.prog w base spare held m 9 [x1] = xs[1]? := by simpa [cStr] using hf 1 _ rfl
    rw [List.getElem?_eq_getElem (by rw [hlen]; decide)] at g0 g1
    obtain ⟨a0, e0, k0⟩ := ofStr g0
    obtain ⟨a1, e1, k1⟩ := ofStr g1
    simp at e0 e1
    subst e0 e1
    exact ⟨(a0, a1), Go.Proofs.YthleodbbppgadaaGreat.cs [.string a0, .string a1], at_DStuffFoe.2 ⟨⟨rfl, k0⟩, ⟨rfl, k1⟩⟩, fun j hj => by
      rw [width_DStuffFoe] at hj
      rcases (show j = 0 ∨ j = 1 by omega) with rfl | rfl <;> rfl⟩
theorem ofDStuffLot {n : Nat} {cs : List Value} {y : DataW H × List MemPlace} (hl : cs.length = 2) (hy : DataW.trod enc Tryz.prog w base spare held n 81 cs = some y) : ∃ (a : DStuffLot) (c : Nat → Value), Lay.At (fun b => b < w.heap.size) w a c ∧ ∀ j, j < Lay.width DStuffLot → cs[j]? = some (c j) := by
  match cs, hl with
  | [x0, x1], _ =>
    obtain ⟨xs, m, _, _, _, hlen, hf⟩ := DataW.trod_struct Tryz.underlying81 hy
    have g0 : DataW.trod enc Tryz.prog w base spare held m 9 [x0] = xs[0]? := by simpa [cStr] using hf 0 _ rfl
    have g1 : DataW.trod enc Tryz.prog w base spare held m 9 [x1] = xs[1]? := by simpa [cStr] using hf 1 _ rfl
    rw [List.getElem?_eq_getElem (by rw [hlen]; decide)] at g0 g1
    obtain ⟨a0, e0, k0⟩ := ofStr g0
    obtain ⟨a1, e1, k1⟩ := ofStr g1
    simp at e0 e1
    subst e0 e1
    exact ⟨(a0, a1), Go.Proofs.YthleodbbppgadaaGreat.cs [.string a0, .string a1], at_DStuffLot.2 ⟨⟨rfl, k0⟩, ⟨rfl, k1⟩⟩, fun j hj => by
      rw [width_DStuffLot] at hj
      rcases (show j = 0 ∨ j = 1 by omega) with rfl | rfl <;> rfl⟩
theorem ofDStuffPart {n : Nat} {cs : List Value} {y : DataW H × List MemPlace} (hl : cs.length = 2) (hy : DataW.trod enc Tryz.prog w base spare held n 168 cs = some y) : ∃ (a : DStuffPart) (c : Nat → Value), Lay.At (fun b => b < w.heap.size) w a c ∧ ∀ j, j < Lay.width DStuffPart → cs[j]? = some (c j) := by
  match cs, hl with
  | [x0, x1], _ =>
    obtain ⟨xs, m, _, _, _, hlen, hf⟩ := DataW.trod_struct Tryz.underlying168 hy
    have g0 : DataW.trod enc Tryz.prog w base spare held m 9 [x0] = xs[0]? := by simpa [cStr, cInt] using hf 0 _ rfl
    have g1 : DataW.trod enc Tryz.prog w base spare held m 3 [x1] = xs[1]? := by simpa [cStr, cInt] using hf 1 _ rfl
    rw [List.getElem?_eq_getElem (by rw [hlen]; decide)] at g0 g1
    obtain ⟨a0, e0, k0⟩ := ofStr g0
    obtain ⟨a1, e1, k1, m1⟩ := ofInt g1
    simp at e0 e1
    subst e0 e1
    exact ⟨(a0, a1), Go.Proofs.YthleodbbppgadaaGreat.cs [.string a0, .int .i64 a1], at_DStuffPart.2 ⟨⟨rfl, k0⟩, ⟨rfl, k1, m1⟩⟩, fun j hj => by
      rw [width_DStuffPart] at hj
      rcases (show j = 0 ∨ j = 1 by omega) with rfl | rfl <;> rfl⟩
theorem ofLStuffPart {fuel : Nat} {v : Value} {x : DataW H × List MemPlace} (h : DataW.trod enc Tryz.prog w base spare held fuel 83 [v] = some x) : ∃ l : List DStuffPart, AtL (fun b => b < w.heap.size) w l v :=
  of_list (α := DStuffPart) Tryz.underlying83 cDStuffPart (by rw [width_DStuffPart]; omega) (fun n cs y hl hy => ofDStuffPart (by simpa [width_DStuffPart] using hl) hy) h
theorem ofLStr {fuel : Nat} {v : Value} {x : DataW H × List MemPlace} (h : DataW.trod enc Tryz.prog w base spare held fuel 29 [v] = some x) : ∃ l : List ByteArray, AtL (fun b => b < w.heap.size) w l v :=
  of_list (α := ByteArray) Tryz.underlying29 cStr (Nat.le_refl _) (fun n cs y hl hy => by
    obtain ⟨a, rfl, ha⟩ := ofStr hy
    exact ⟨a, Go.Proofs.YthleodbbppgadaaGreat.cs [.string a], ⟨rfl, ha⟩, fun j hj => by
      have e : j = 0 := by simpa [width_str] using hj
      subst e; rfl⟩) h
theorem ofDStuffVessel {n : Nat} {cs : List Value} {y : DataW H × List MemPlace} (hl : cs.length = 4) (hy : DataW.trod enc Tryz.prog w base spare held n 85 cs = some y) : ∃ (a : DStuffVessel) (c : Nat → Value), Lay.At (fun b => b < w.heap.size) w a c ∧ ∀ j, j < Lay.width DStuffVessel → cs[j]? = some (c j) := by
  match cs, hl with
  | [x0, x1, x2, x3], _ =>
    obtain ⟨xs, m, _, _, _, hlen, hf⟩ := DataW.trod_struct Tryz.underlying85 hy
    have g0 : DataW.trod enc Tryz.prog w base spare held m 9 [x0] = xs[0]? := by simpa [cStr, cInt, cLStr, cLStuffPart] using hf 0 _ rfl
    have g1 : DataW.trod enc Tryz.prog w base spare held m 3 [x1] = xs[1]? := by simpa [cStr, cInt, cLStr, cLStuffPart] using hf 1 _ rfl
    have g2 : DataW.trod enc Tryz.prog w base spare held m 83 [x2] = xs[2]? := by simpa [cStr, cInt, cLStr, cLStuffPart] using hf 2 _ rfl
    have g3 : DataW.trod enc Tryz.prog w base spare held m 29 [x3] = xs[3]? := by simpa [cStr, cInt, cLStr, cLStuffPart] using hf 3 _ rfl
    rw [List.getElem?_eq_getElem (by rw [hlen]; decide)] at g0 g1 g2 g3
    obtain ⟨a0, e0, k0⟩ := ofStr g0
    obtain ⟨a1, e1, k1, m1⟩ := ofInt g1
    obtain ⟨a2, k2⟩ := ofLStuffPart g2
    obtain ⟨a3, k3⟩ := ofLStr g3
    simp at e0 e1
    subst e0 e1
    exact ⟨(a0, a1, a2, a3), Go.Proofs.YthleodbbppgadaaGreat.cs [.string a0, .int .i64 a1, x2, x3], at_DStuffVessel.2 ⟨⟨rfl, k0⟩, ⟨rfl, k1, m1⟩, k2, k3⟩, fun j hj => by
      rw [width_DStuffVessel] at hj
      rcases (show j = 0 ∨ j = 1 ∨ j = 2 ∨ j = 3 by omega) with rfl | rfl | rfl | rfl <;> rfl⟩
theorem ofDStuffOut {n : Nat} {cs : List Value} {y : DataW H × List MemPlace} (hl : cs.length = 3) (hy : DataW.trod enc Tryz.prog w base spare held n 88 cs = some y) : ∃ (a : DStuffOut) (c : Nat → Value), Lay.At (fun b => b < w.heap.size) w a c ∧ ∀ j, j < Lay.width DStuffOut → cs[j]? = some (c j) := by
  match cs, hl with
  | [x0, x1, x2], _ =>
    obtain ⟨xs, m, _, _, _, hlen, hf⟩ := DataW.trod_struct Tryz.underlying88 hy
    have g0 : DataW.trod enc Tryz.prog w base spare held m 9 [x0] = xs[0]? := by simpa [cStr, cLStr, cLStuffPart] using hf 0 _ rfl
    have g1 : DataW.trod enc Tryz.prog w base spare held m 83 [x1] = xs[1]? := by simpa [cStr, cLStr, cLStuffPart] using hf 1 _ rfl
    have g2 : DataW.trod enc Tryz.prog w base spare held m 29 [x2] = xs[2]? := by simpa [cStr, cLStr, cLStuffPart] using hf 2 _ rfl
    rw [List.getElem?_eq_getElem (by rw [hlen]; decide)] at g0 g1 g2
    obtain ⟨a0, e0, k0⟩ := ofStr g0
    obtain ⟨a1, k1⟩ := ofLStuffPart g1
    obtain ⟨a2, k2⟩ := ofLStr g2
    simp at e0
    subst e0
    exact ⟨(a0, a1, a2), Go.Proofs.YthleodbbppgadaaGreat.cs [.string a0, x1, x2], at_DStuffOut.2 ⟨⟨rfl, k0⟩, k1, k2⟩, fun j hj => by
      rw [width_DStuffOut] at hj
      rcases (show j = 0 ∨ j = 1 ∨ j = 2 by omega) with rfl | rfl | rfl <;> rfl⟩
theorem ofLStuffFoe {fuel : Nat} {v : Value} {x : DataW H × List MemPlace} (h : DataW.trod enc Tryz.prog w base spare held fuel 22 [v] = some x) : ∃ l : List DStuffFoe, AtL (fun b => b < w.heap.size) w l v :=
  of_list (α := DStuffFoe) Tryz.underlying22 cDStuffFoe (by rw [width_DStuffFoe]; omega) (fun n cs y hl hy => ofDStuffFoe (by simpa [width_DStuffFoe] using hl) hy) h
theorem ofLStuffLot {fuel : Nat} {v : Value} {x : DataW H × List MemPlace} (h : DataW.trod enc Tryz.prog w base spare held fuel 23 [v] = some x) : ∃ l : List DStuffLot, AtL (fun b => b < w.heap.size) w l v :=
  of_list (α := DStuffLot) Tryz.underlying23 cDStuffLot (by rw [width_DStuffLot]; omega) (fun n cs y hl hy => ofDStuffLot (by simpa [width_DStuffLot] using hl) hy) h
theorem ofLStuffVessel {fuel : Nat} {v : Value} {x : DataW H × List MemPlace} (h : DataW.trod enc Tryz.prog w base spare held fuel 24 [v] = some x) : ∃ l : List DStuffVessel, AtL (fun b => b < w.heap.size) w l v :=
  of_list (α := DStuffVessel) Tryz.underlying24 cDStuffVessel (by rw [width_DStuffVessel]; omega) (fun n cs y hl hy => ofDStuffVessel (by simpa [width_DStuffVessel] using hl) hy) h
theorem ofLStuffOut {fuel : Nat} {v : Value} {x : DataW H × List MemPlace} (h : DataW.trod enc Tryz.prog w base spare held fuel 25 [v] = some x) : ∃ l : List DStuffOut, AtL (fun b => b < w.heap.size) w l v :=
  of_list (α := DStuffOut) Tryz.underlying25 cDStuffOut (by rw [width_DStuffOut]; omega) (fun n cs y hl hy => ofDStuffOut (by simpa [width_DStuffOut] using hl) hy) h
set_option maxRecDepth 100000 in
theorem ofStuffBook {r : Reach} {b0 : Nat} {v : Value} {d : DataW H} {p : List MemPlace} (hv : Value.okWide Tryz.prog w r b0 27 v) (h : DataW.Trod enc Tryz.prog w base spare held 27 v d p) :
    ∃ (a : DStuffBook) (c : Nat → Value), v = .agg #[c 0, c 1, c 2, c 3] ∧ Lay.At (fun b => b < w.heap.size) w a c := by
  obtain ⟨v0, v1, v2, v3, y0, y1, y2, y3, n, rfl, _, _, h0, h1, h2, h3⟩ := Joins.open_agg4 Tryz.underlying27 (by kernel_rfl) (by kernel_rfl) hv h
  obtain ⟨a0, k0⟩ := ofLStuffFoe h0
  obtain ⟨a1, k1⟩ := ofLStuffLot h1
  obtain ⟨a2, k2⟩ := ofLStuffVessel h2
  obtain ⟨a3, k3⟩ := ofLStuffOut h3
  exact ⟨(a0, a1, a2, a3), Go.Proofs.YthleodbbppgadaaGreat.cs [v0, v1, v2, v3], rfl, at_DStuffBook.2 ⟨k0, k1, k2, k3⟩⟩
end

end Go.Proofs.YthleodbbppgadaaGreat
