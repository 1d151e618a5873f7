/-
  Several texts in one.
-/
import Derived.Test.YticojnepejboaacGreatCwa
import Derived.Deep.Slices
import Derived.Lib.SmallJoins
import Derived.ProofKit
import Derived.Test.YticojnepejboaacGreatCba
namespace Go.Proofs.YticojnepejboaacGreat

/-
  From a value of the law's type that can be read to its data in memory.
-/
section
open Go.ChangeShapes Go.WideShapes Go.ChangeAt Go.RowKit

theorem cStr : Tryz.prog.cellsOf 9 = 1 := by kernel_rfl
theorem cInt : Tryz.prog.cellsOf 3 = 1 := by kernel_rfl
theorem cLStr : Tryz.prog.cellsOf 24 = 1 := by kernel_rfl
theorem cLClaimUse : Tryz.prog.cellsOf 73 = 1 := by kernel_rfl
theorem cDClaimUse : Tryz.prog.cellsOf 138 = 3 := by kernel_rfl
theorem cDClaimWant : Tryz.prog.cellsOf 75 = 6 := by kernel_rfl

section
variable {H : Type} {enc : TypeId × Value → H} {w : World} {base : Nat} {spare : Nat → Bool} {held : Bool}

/-- A list that can be read, if each element can. -/
theorem of_list {t e : TypeId} {fuel : Nat} {v : Value} {x : DataW H × List MemPlace} {α : Type} [Lay α] [Inhabited α] (ht : Tryz.prog.underlying t = some (.slice e)) (hk : Tryz.prog.cellsOf e = Lay.width α) (hk1 : 1 ≤ Lay.width α)
    (hel : ∀ n cs y, cs.length = Lay.width α → DataW.trod enc Tryz.prog w base spare held n e cs = some y → ∃ (a : α) (c : Nat → Value), Lay.At (fun b => b < w.heap.size) w a c ∧ ∀ j, j < Lay.width α → cs[j]? = some (c j))
    (h : DataW.trod enc Tryz.prog w base spare held fuel t [v] = some x) : ∃ l : List α, AtL (fun b => b < w.heap.size) w l v := by
  rcases Deep.open_slice ht h with ⟨h1, _⟩ | ⟨a, len, cap, m, n, D, Pl, h1, hb, hl, hm, hmm, _, hx⟩
  · simp at h1; subst h1
    exact ⟨[], none, 0, rfl, ⟨Nat.zero_le _, Nat.le_refl _, fun _ => rfl⟩, fun i hi => by simp at hi⟩
  · simp at h1; subst h1
    have hle : len ≤ m := by rw [hmm]; split <;> omega
    obtain ⟨f, hf⟩ := Deep.choose_lt (α := α × (Nat → Value)) (n := len) (p := fun i z => Lay.At (fun b => b < w.heap.size) w z.1 z.2 ∧ ∀ j, j < Lay.width α → w.cell? ((a.add (i * Lay.width α)).add j) = some (z.2 j)) (fun i hi => by
      obtain ⟨cs', h2, h3⟩ := hx i (by omega)
      rw [hk] at h2
      obtain ⟨_, h4, h5⟩ := World.cells?_some h2
      obtain ⟨a', c', hq, h6⟩ := hel n cs' _ h4 h3
      exact ⟨(a', c'), hq, fun j hj => (h5 j hj).trans (h6 j hj)⟩)
    refine ⟨List.ofFn (fun i : Fin len => (f i).1), some a, cap, by simp, ⟨by simp; omega, by rw [List.length_ofFn]; omega, fun h => nomatch h⟩, fun i hi => ?_⟩
    have hil : i < len := by simpa using hi
    have h0 := (hf 0 (by omega)).2 0 hk1
    have hsp : a.spot = none := by
      have h7 := World.cell?_spot h0
      simpa [Addr.add] using h7
    obtain ⟨b, off, sp⟩ := a
    simp only at hsp
    subst hsp
    refine ⟨b, off, rfl, ?_, (f i).2, fun j hj => ?_, ?_⟩
    · exact World.block_lt_of_cell? w _ (by simpa [add_plain] using h0)
    · have h8 := (hf i hil).2 j hj
      rw [add_plain, add_plain] at h8
      exact h8
    · rw [List.getElem_ofFn]
      exact (hf i hil).1

theorem ofStr {n : Nat} {cs : List Value} {y : DataW H × List MemPlace} (h : DataW.trod enc Tryz.prog w base spare held n 9 cs = some y) : ∃ a : ByteArray, cs = [.string a] ∧ a.size ≤ maxLen := by
  obtain ⟨s, h1, _, h2⟩ := DataW.trod_string Tryz.underlying9 h
  exact ⟨s, h1, h2⟩
theorem ofInt {n : Nat} {cs : List Value} {y : DataW H × List MemPlace} (h : DataW.trod enc Tryz.prog w base spare held n 3 cs = some y) : ∃ a : Int, cs = [.int .i64 a] ∧ -9223372036854775808 ≤ a ∧ a ≤ 9223372036854775807 := by
  obtain ⟨s, h1, _, h2⟩ := DataW.trod_int Tryz.underlying3 h
  refine ⟨s, h1, ?_⟩
  have e1 : IntKind.i64.min = -9223372036854775808 := by decide
  have e2 : IntKind.i64.max = 9223372036854775807 := by decide
  simp [Lit.wf] at h2
  omega
theorem ofDClaimUse {n : Nat} {cs : List Value} {y : DataW H × List MemPlace} (hl : cs.length = 3) (hy : DataW.trod enc Tryz.prog w base spare held n 138 cs = some y) : ∃ (a : DClaimUse) (c : Nat → Value), Lay.At (fun b => b < w.heap.size) w a c ∧ ∀ j, j < Lay.width DClaimUse → cs[j]? = some (c j) := by
  match cs, hl with
  | [x0, x1, x2], _ =>
    obtain ⟨xs, m, _, _, _, hlen, hf⟩ := DataW.trod_struct Tryz.underlying138 hy
    have g0 : DataW.trod enc Tryz.prog w base spare held m 9 [x0] = xs[0]? := by simpa [cStr, cInt] using hf 0 _ rfl
    have g1 : DataW.trod enc Tryz.prog w base spare held m 3 [x1] = xs[1]? := by simpa [cStr, cInt] using hf 1 _ rfl
    have g2 : DataW.trod enc Tryz.prog w base spare held m 3 [x2] = xs[2]? := by simpa [cStr, cInt] using hf 2 _ rfl
    rw [List.getElem?_eq_getElem (by rw [hlen]; decide)] at g0 g1 g2
    obtain ⟨a0, e0, k0⟩ := ofStr g0
    obtain ⟨a1, e1, k1, m1⟩ := ofInt g1
    obtain ⟨a2, e2, k2, m2⟩ := ofInt g2
    simp at e0 e1 e2
    subst e0 e1 e2
    exact ⟨(a0, a1, a2), Go.Proofs.YticojnepejboaacGreat.cs [.string a0, .int .i64 a1, .int .i64 a2], at_DClaimUse.2 ⟨⟨rfl, k0⟩, ⟨rfl, k1, m1⟩, ⟨rfl, k2, m2⟩⟩, fun j hj => by
      rw [width_DClaimUse] at hj
      rcases (show j = 0 ∨ j = 1 ∨ j = 2 by omega) with rfl | rfl | rfl <;> rfl⟩
theorem ofLStr {fuel : Nat} {v : Value} {x : DataW H × List MemPlace} (h : DataW.trod enc Tryz.prog w base spare held fuel 24 [v] = some x) : ∃ l : List ByteArray, AtL (fun b => b < w.heap.size) w l v :=
  of_list (α := ByteArray) Tryz.underlying24 cStr (Nat.le_refl _) (fun n cs y hl hy => by
    obtain ⟨a, rfl, ha⟩ := ofStr hy
    exact ⟨a, Go.Proofs.YticojnepejboaacGreat.cs [.string a], ⟨rfl, ha⟩, fun j hj => by
      have e : j = 0 := by simpa [width_str] using hj
      subst e; rfl⟩) h
theorem ofLClaimUse {fuel : Nat} {v : Value} {x : DataW H × List MemPlace} (h : DataW.trod enc Tryz.prog w base spare held fuel 73 [v] = some x) : ∃ l : List DClaimUse, AtL (fun b => b < w.heap.size) w l v :=
  of_list (α := DClaimUse) Tryz.underlying73 cDClaimUse (by rw [width_DClaimUse]; omega) (fun n cs y hl hy => ofDClaimUse (by simpa [width_DClaimUse] using hl) hy) h
theorem ofDClaimWant {n : Nat} {cs : List Value} {y : DataW H × List MemPlace} (hl : cs.length = 6) (hy : DataW.trod enc Tryz.prog w base spare held n 75 cs = some y) : ∃ (a : DClaimWant) (c : Nat → Value), Lay.At (fun b => b < w.heap.size) w a c ∧ ∀ j, j < Lay.width DClaimWant → cs[j]? = some (c j) := by
  match cs, hl with
  | [x0, x1, x2, x3, x4, x5], _ =>
    obtain ⟨xs, m, _, _, _, hlen, hf⟩ := DataW.trod_struct Tryz.underlying75 hy
    have g0 : DataW.trod enc Tryz.prog w base spare held m 3 [x0] = xs[0]? := by simpa [cStr, cInt, cLStr, cLClaimUse] using hf 0 _ rfl
    have g1 : DataW.trod enc Tryz.prog w base spare held m 3 [x1] = xs[1]? := by simpa [cStr, cInt, cLStr, cLClaimUse] using hf 1 _ rfl
    have g2 : DataW.trod enc Tryz.prog w base spare held m 24 [x2] = xs[2]? := by simpa [cStr, cInt, cLStr, cLClaimUse] using hf 2 _ rfl
    have g3 : DataW.trod enc Tryz.prog w base spare held m 73 [x3] = xs[3]? := by simpa [cStr, cInt, cLStr, cLClaimUse] using hf 3 _ rfl
    have g4 : DataW.trod enc Tryz.prog w base spare held m 24 [x4] = xs[4]? := by simpa [cStr, cInt, cLStr, cLClaimUse] using hf 4 _ rfl
    have g5 : DataW.trod enc Tryz.prog w base spare held m 24 [x5] = xs[5]? := by simpa [cStr, cInt, cLStr, cLClaimUse] using hf 5 _ rfl
    rw [List.getElem?_eq_getElem (by rw [hlen]; decide)] at g0 g1 g2 g3 g4 g5
    obtain ⟨a0, e0, k0, m0⟩ := ofInt g0
    obtain ⟨a1, e1, k1, m1⟩ := ofInt g1
    obtain ⟨a2, k2⟩ := ofLStr g2
    obtain ⟨a3, k3⟩ := ofLClaimUse g3
    obtain ⟨a4, k4⟩ := ofLStr g4
    obtain ⟨a5, k5⟩ := ofLStr g5
    simp at e0 e1
    subst e0 e1
    exact ⟨(a0, a1, a2, a3, a4, a5), Go.Proofs.YticojnepejboaacGreat.cs [.int .i64 a0, .int .i64 a1, x2, x3, x4, x5], at_DClaimWant.2 ⟨⟨rfl, k0, m0⟩, ⟨rfl, k1, m1⟩, k2, k3, k4, k5⟩, fun j hj => by
      rw [width_DClaimWant] at hj
      rcases (show j = 0 ∨ j = 1 ∨ j = 2 ∨ j = 3 ∨ j = 4 ∨ j = 5 by omega) with rfl | rfl | rfl | rfl | rfl | rfl <;> rfl⟩
set_option maxRecDepth 100000 in
theorem ofClaimWant {r : Reach} {b0 : Nat} {v : Value} {d : DataW H} {p : List MemPlace} (hv : Value.okWide Tryz.prog w r b0 75 v) (h : DataW.Trod enc Tryz.prog w base spare held 75 v d p) :
    ∃ (a : DClaimWant) (c : Nat → Value), v = .agg #[c 0, c 1, c 2, c 3, c 4, c 5] ∧ Lay.At (fun b => b < w.heap.size) w a c := by
  obtain ⟨cs, rfl, hsz⟩ := okWide_struct Tryz.underlying75 hv
  obtain ⟨m, hm⟩ := h
  have hl : cs.toList.length = 6 := by rw [Array.length_toList]; exact hsz.trans cDClaimWant
  obtain ⟨a, c, hat, hc⟩ := ofDClaimWant hl hm
  refine ⟨a, c, ?_, hat⟩
  congr 1
  apply Array.ext
  · rw [hsz]; exact cDClaimWant
  · intro j h1 h2
    have h3 : j < 6 := by have := hsz.trans cDClaimWant; omega
    have := hc j (by rw [width_DClaimWant]; exact h3)
    rw [Array.getElem?_toList, Array.getElem?_eq_getElem h1] at this
    rw [Option.some.inj this]
    rcases (show j = 0 ∨ j = 1 ∨ j = 2 ∨ j = 3 ∨ j = 4 ∨ j = 5 by omega) with rfl | rfl | rfl | rfl | rfl | rfl <;> rfl
end
end

/-
  From a value of the law's type that can be read to its data in memory.
-/
section
open Go.ChangeShapes Go.WideShapes Go.ChangeAt Go.RowKit

theorem cBool : Tryz.prog.cellsOf 4 = 1 := by kernel_rfl
theorem cLClaimFoe : Tryz.prog.cellsOf 22 = 1 := by kernel_rfl
theorem cLClaimSpot : Tryz.prog.cellsOf 23 = 1 := by kernel_rfl
theorem cLClaimPart : Tryz.prog.cellsOf 25 = 1 := by kernel_rfl
theorem cDClaimFoe : Tryz.prog.cellsOf 68 = 2 := by kernel_rfl
theorem cDClaimSpot : Tryz.prog.cellsOf 71 = 5 := by kernel_rfl
theorem cDClaimPart : Tryz.prog.cellsOf 77 = 7 := by kernel_rfl
theorem cDClaimBook : Tryz.prog.cellsOf 27 = 5 := by kernel_rfl

section
variable {H : Type} {enc : TypeId × Value → H} {w : World} {base : Nat} {spare : Nat → Bool} {held : Bool}

theorem ofBool {n : Nat} {cs : List Value} {y : DataW H × List MemPlace} (h : DataW.trod enc Tryz.prog w base spare held n 4 cs = some y) : ∃ a : Bool, cs = [.bool a] := by
  obtain ⟨s, h1, _⟩ := DataW.trod_bool Tryz.underlying4 h
  exact ⟨s, h1⟩
theorem ofDClaimFoe {n : Nat} {cs : List Value} {y : DataW H × List MemPlace} (hl : cs.length = 2) (hy : DataW.trod enc Tryz.prog w base spare held n 68 cs = some y) : ∃ (a : DClaimFoe) (c : Nat → Value), Lay.At (fun b => b < w.heap.size) w a c ∧ ∀ j, j < Lay.width DClaimFoe → cs[j]? = some (c j) := by
  match cs, hl with
  | [x0, x1], _ =>
    obtain ⟨xs, m, _, _, _, hlen, hf⟩ := DataW.trod_struct Tryz.underlying68 hy
    have g0 : DataW.trod enc Tryz.prog w base spare held m 9 [x0] = xs[0]? := by simpa [cStr] using hf 0 _ rfl
    have g1 : DataW.trod enc Tryz.prog w base spare held m 9 [x1] = xs[1]? := by simpa [cStr] using hf 1 _ rfl
    rw [List.getElem?_eq_getElem (by rw [hlen]; decide)] at g0 g1
    obtain ⟨a0, e0, k0⟩ := ofStr g0
    obtain ⟨a1, e1, k1⟩ := ofStr g1
    simp at e0 e1
    subst e0 e1
    exact ⟨(a0, a1), Go.Proofs.YticojnepejboaacGreat.cs [.string a0, .string a1], at_DClaimFoe.2 ⟨⟨rfl, k0⟩, ⟨rfl, k1⟩⟩, fun j hj => by
      rw [width_DClaimFoe] at hj
      rcases (show j = 0 ∨ j = 1 by omega) with rfl | rfl <;> rfl⟩
theorem ofDClaimSpot {n : Nat} {cs : List Value} {y : DataW H × List MemPlace} (hl : cs.length = 5) (hy : DataW.trod enc Tryz.prog w base spare held n 71 cs = some y) : ∃ (a : DClaimSpot) (c : Nat → Value), Lay.At (fun b => b < w.heap.size) w a c ∧ ∀ j, j < Lay.width DClaimSpot → cs[j]? = some (c j) := by
  match cs, hl with
  | [x0, x1, x2, x3, x4], _ =>
    obtain ⟨xs, m, _, _, _, hlen, hf⟩ := DataW.trod_struct Tryz.underlying71 hy
    have g0 : DataW.trod enc Tryz.prog w base spare held m 9 [x0] = xs[0]? := by simpa [cStr, cInt, cLStr] using hf 0 _ rfl
    have g1 : DataW.trod enc Tryz.prog w base spare held m 3 [x1] = xs[1]? := by simpa [cStr, cInt, cLStr] using hf 1 _ rfl
    have g2 : DataW.trod enc Tryz.prog w base spare held m 3 [x2] = xs[2]? := by simpa [cStr, cInt, cLStr] using hf 2 _ rfl
    have g3 : DataW.trod enc Tryz.prog w base spare held m 3 [x3] = xs[3]? := by simpa [cStr, cInt, cLStr] using hf 3 _ rfl
    have g4 : DataW.trod enc Tryz.prog w base spare held m 24 [x4] = xs[4]? := by simpa [cStr, cInt, cLStr] using hf 4 _ rfl
    rw [List.getElem?_eq_getElem (by rw [hlen]; decide)] at g0 g1 g2 g3 g4
    obtain ⟨a0, e0, k0⟩ := ofStr g0
    obtain ⟨a1, e1, k1, m1⟩ := ofInt g1
    obtain ⟨a2, e2, k2, m2⟩ := ofInt g2
    obtain ⟨a3, e3, k3, m3⟩ := ofInt g3
    obtain ⟨a4, k4⟩ := ofLStr g4
    simp at e0 e1 e2 e3
    subst e0 e1 e2 e3
    exact ⟨(a0, a1, a2, a3, a4), Go.Proofs.YticojnepejboaacGreat.cs [.string a0, .int .i64 a1, .int .i64 a2, .int .i64 a3, x4], at_DClaimSpot.2 ⟨⟨rfl, k0⟩, ⟨rfl, k1, m1⟩, ⟨rfl, k2, m2⟩, ⟨rfl, k3, m3⟩, k4⟩, fun j hj => by
      rw [width_DClaimSpot] at hj
      rcases (show j = 0 ∨ j = 1 ∨ j = 2 ∨ j = 3 ∨ j = 4 by omega) with rfl | rfl | rfl | rfl | rfl <;> rfl⟩
theorem ofDClaimPart {n : Nat} {cs : List Value} {y : DataW H × List MemPlace} (hl : cs.length = 7) (hy : DataW.trod enc Tryz.prog w base spare held n 77 cs = some y) : ∃ (a : DClaimPart) (c : Nat → Value), Lay.At (fun b => b < w.heap.size) w a c ∧ ∀ j, j < Lay.width DClaimPart → cs[j]? = some (c j) := by
  match cs, hl with
  | [x0, x1, x2, x3, x4, x5, x6], _ =>
    obtain ⟨xs, m, _, _, _, hlen, hf⟩ := DataW.trod_struct Tryz.underlying77 hy
    have g0 : DataW.trod enc Tryz.prog w base spare held m 75 [x0, x1, x2, x3, x4, x5] = xs[0]? := by simpa [cDClaimWant, cBool] using hf 0 _ rfl
    have g1 : DataW.trod enc Tryz.prog w base spare held m 4 [x6] = xs[1]? := by simpa [cDClaimWant, cBool] using hf 1 _ rfl
    rw [List.getElem?_eq_getElem (by rw [hlen]; decide)] at g0 g1
    obtain ⟨a, c, hat, hc⟩ := ofDClaimWant rfl g0
    obtain ⟨a6, e6⟩ := ofBool g1
    simp at e6
    subst e6
    rw [at_DClaimWant] at hat
    have q0 : x0 = c 0 := Option.some.inj (hc 0 (by rw [width_DClaimWant]; omega))
    have q1 : x1 = c 1 := Option.some.inj (hc 1 (by rw [width_DClaimWant]; omega))
    have q2 : x2 = c 2 := Option.some.inj (hc 2 (by rw [width_DClaimWant]; omega))
    have q3 : x3 = c 3 := Option.some.inj (hc 3 (by rw [width_DClaimWant]; omega))
    have q4 : x4 = c 4 := Option.some.inj (hc 4 (by rw [width_DClaimWant]; omega))
    have q5 : x5 = c 5 := Option.some.inj (hc 5 (by rw [width_DClaimWant]; omega))
    rw [← q0, ← q1, ← q2, ← q3, ← q4, ← q5] at hat
    exact ⟨(a.1, a.2.1, a.2.2.1, a.2.2.2.1, a.2.2.2.2.1, a.2.2.2.2.2, a6), Go.Proofs.YticojnepejboaacGreat.cs [x0, x1, x2, x3, x4, x5, .bool a6], at_DClaimPart.2 ⟨hat.1, hat.2.1, hat.2.2.1, hat.2.2.2.1, hat.2.2.2.2.1, hat.2.2.2.2.2, rfl⟩, fun j hj => by
      rw [width_DClaimPart] at hj
      rcases (show j = 0 ∨ j = 1 ∨ j = 2 ∨ j = 3 ∨ j = 4 ∨ j = 5 ∨ j = 6 by omega) with rfl | rfl | rfl | rfl | rfl | rfl | rfl <;> rfl⟩
theorem ofLClaimFoe {fuel : Nat} {v : Value} {x : DataW H × List MemPlace} (h : DataW.trod enc Tryz.prog w base spare held fuel 22 [v] = some x) : ∃ l : List DClaimFoe, AtL (fun b => b < w.heap.size) w l v :=
  of_list (α := DClaimFoe) Tryz.underlying22 cDClaimFoe (by rw [width_DClaimFoe]; omega) (fun n cs y hl hy => ofDClaimFoe (by simpa [width_DClaimFoe] using hl) hy) h
theorem ofLClaimSpot {fuel : Nat} {v : Value} {x : DataW H × List MemPlace} (h : DataW.trod enc Tryz.prog w base spare held fuel 23 [v] = some x) : ∃ l : List DClaimSpot, AtL (fun b => b < w.heap.size) w l v :=
  of_list (α := DClaimSpot) Tryz.underlying23 cDClaimSpot (by rw [width_DClaimSpot]; omega) (fun n cs y hl hy => ofDClaimSpot (by simpa [width_DClaimSpot] using hl) hy) h
theorem ofLClaimPart {fuel : Nat} {v : Value} {x : DataW H × List MemPlace} (h : DataW.trod enc Tryz.prog w base spare held fuel 25 [v] = some x) : ∃ l : List DClaimPart, AtL (fun b => b < w.heap.size) w l v :=
  of_list (α := DClaimPart) Tryz.underlying25 cDClaimPart (by rw [width_DClaimPart]; omega) (fun n cs y hl hy => ofDClaimPart (by simpa [width_DClaimPart] using hl) hy) h
theorem ofDClaimBook {n : Nat} {cs : List Value} {y : DataW H × List MemPlace} (hl : cs.length = 5) (hy : DataW.trod enc Tryz.prog w base spare held n 27 cs = some y) : ∃ (a : DClaimBook) (c : Nat → Value), Lay.At (fun b => b < w.heap.size) w a c ∧ ∀ j, j < Lay.width DClaimBook → cs[j]? = some (c j) := by
  match cs, hl with
  | [x0, x1, x2, x3, x4], _ =>
    obtain ⟨xs, m, _, _, _, hlen, hf⟩ := DataW.trod_struct Tryz.underlying27 hy
    have g0 : DataW.trod enc Tryz.prog w base spare held m 22 [x0] = xs[0]? := by simpa [cStr, cInt, cLStr, cLClaimFoe, cLClaimPart, cLClaimSpot] using hf 0 _ rfl
    have g1 : DataW.trod enc Tryz.prog w base spare held m 23 [x1] = xs[1]? := by simpa [cStr, cInt, cLStr, cLClaimFoe, cLClaimPart, cLClaimSpot] using hf 1 _ rfl
    have g2 : DataW.trod enc Tryz.prog w base spare held m 24 [x2] = xs[2]? := by simpa [cStr, cInt, cLStr, cLClaimFoe, cLClaimPart, cLClaimSpot] using hf 2 _ rfl
    have g3 : DataW.trod enc Tryz.prog w base spare held m 25 [x3] = xs[3]? := by simpa [cStr, cInt, cLStr, cLClaimFoe, cLClaimPart, cLClaimSpot] using hf 3 _ rfl
    have g4 : DataW.trod enc Tryz.prog w base spare held m 3 [x4] = xs[4]? := by simpa [cStr, cInt, cLStr, cLClaimFoe, cLClaimPart, cLClaimSpot] using hf 4 _ rfl
    rw [List.getElem?_eq_getElem (by rw [hlen]; decide)] at g0 g1 g2 g3 g4
    obtain ⟨a0, k0⟩ := ofLClaimFoe g0
    obtain ⟨a1, k1⟩ := ofLClaimSpot g1
    obtain ⟨a2, k2⟩ := ofLStr g2
    obtain ⟨a3, k3⟩ := ofLClaimPart g3
    obtain ⟨a4, e4, k4, m4⟩ := ofInt g4
    simp at e4
    subst e4
    exact ⟨(a0, a1, a2, a3, a4), Go.Proofs.YticojnepejboaacGreat.cs [x0, x1, x2, x3, .int .i64 a4], at_DClaimBook.2 ⟨k0, k1, k2, k3, ⟨rfl, k4, m4⟩⟩, fun j hj => by
      rw [width_DClaimBook] at hj
      rcases (show j = 0 ∨ j = 1 ∨ j = 2 ∨ j = 3 ∨ j = 4 by omega) with rfl | rfl | rfl | rfl | rfl <;> rfl⟩
set_option maxRecDepth 100000 in
theorem ofClaimBook {r : Reach} {b0 : Nat} {v : Value} {d : DataW H} {p : List MemPlace} (hv : Value.okWide Tryz.prog w r b0 27 v) (h : DataW.Trod enc Tryz.prog w base spare held 27 v d p) :
    ∃ (a : DClaimBook) (c : Nat → Value), v = .agg #[c 0, c 1, c 2, c 3, c 4] ∧ Lay.At (fun b => b < w.heap.size) w a c := by
  obtain ⟨cs, rfl, hsz⟩ := okWide_struct Tryz.underlying27 hv
  obtain ⟨m, hm⟩ := h
  have hl : cs.toList.length = 5 := by rw [Array.length_toList]; exact hsz.trans cDClaimBook
  obtain ⟨a, c, hat, hc⟩ := ofDClaimBook hl hm
  refine ⟨a, c, ?_, hat⟩
  congr 1
  apply Array.ext
  · rw [hsz]; exact cDClaimBook
  · intro j h1 h2
    have h3 : j < 5 := by have := hsz.trans cDClaimBook; omega
    have := hc j (by rw [width_DClaimBook]; exact h3)
    rw [Array.getElem?_toList, Array.getElem?_eq_getElem h1] at this
    rw [Option.some.inj this]
    rcases (show j = 0 ∨ j = 1 ∨ j = 2 ∨ j = 3 ∨ j = 4 by omega) with rfl | rfl | rfl | rfl | rfl <;> rfl
end
end

end Go.Proofs.YticojnepejboaacGreat
