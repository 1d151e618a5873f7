/-
  What a loop over a run keeps in its two boxes: where it was last, and what was passed.
-/
import Derived.Test.YtkongeofapbblaaM47
import Derived.Test.YtkongeofapbblaaM13
namespace Go.Proofs.Ytkongeofapbblaa
open Go.RowKit

/-- What the loop owns. -/
def ownU (g6 g7 : Nat) : World → Nat → Prop := fun W q => q = g6 ∨ q = g7 ∨ ∃ pv, W.heap[g7]? = some (.cells #[pv] 29 (0, 0)) ∧ pv.ownBlock = some q
structure RuI (U : World) (g6 g7 tb : Nat) (l : List ByteArray) (X : World) (pv : Value) (c : Array Value) : Prop where
  row : Row X U.heap.size 9 1 eS pv l
  b7 : X.heap[g7]? = some (.cells #[pv] 29 (0, 0))
  b6 : X.heap[g6]? = some (.cells c 28 (0, 0))
  but : But (fun b => b = g6 ∨ b = g7 ∨ b = tb) U X
theorem rowU_cells {w : World} {B t : Nat} {v : Value} {l : List ByteArray} (h : Row w B t 1 eS v l) {g : Nat} (hg : v.ownBlock = some g) : ∃ cur, w.heap[g]? = some (.cells cur t (0, 0)) := by
  rcases h.2 with ⟨rfl, _⟩ | ⟨g', cap, cur, rfl, _, hgg, _⟩
  · cases hg
  · cases hg; exact ⟨cur, hgg⟩
section
variable {U A C V : World} {g6 g7 tb n₀ : Nat} {l l' : List ByteArray} {pv pv' : Value} {c : Array Value}
theorem RuI.lt (h : RuI U g6 g7 tb l A pv c) {q : Nat} (hq : pv.ownBlock = some q) : U.heap.size ≤ q ∧ q < A.heap.size := World.ownsRow.lt h.row q hq
theorem RuI.own (h : RuI U g6 g7 tb l A pv c) {q : Nat} : ownU g6 g7 A q ↔ q = g6 ∨ q = g7 ∨ pv.ownBlock = some q := by
  constructor
  · rintro (e | e | ⟨u, hu, ho⟩)
    · exact .inl e
    · exact .inr (.inl e)
    · rw [h.b7] at hu; cases hu; exact .inr (.inr ho)
  · rintro (e | e | ho)
    · exact .inl e
    · exact .inr (.inl e)
    · exact .inr (.inr ⟨pv, h.b7, ho⟩)
theorem RuI.butR (h : RuI U g6 g7 tb l A pv c) (h6 : g6 < U.heap.size) (h7 : g7 < U.heap.size) (ht : tb < U.heap.size) (ne : g6 ≠ tb ∧ g7 ≠ tb) (hb : ButR (fun b => b = tb) U.heap.size A C) : RuI U g6 g7 tb l C pv c := by
  have sA := h.but.size
  refine ⟨Row.block h.row (fun q hq => ?_), ?_, ?_, ⟨hb.os.trans h.but.os, hb.tape.trans h.but.tape, hb.output.trans h.but.output, Nat.le_trans sA hb.size, fun b hb1 hn => ?_⟩⟩
  · obtain ⟨cur, hc⟩ := rowU_cells h.row hq
    have hl := h.lt hq
    exact hb.block q hl.2 (by omega) (fun hr => by obtain ⟨_, o, ho, hoc⟩ := hr; rw [hc] at ho; cases ho; cases hoc)
  · exact (hb.block g7 (by omega) ne.2 (fun hr => by omega)).trans h.b7
  · exact (hb.block g6 (by omega) ne.1 (fun hr => by omega)).trans h.b6
  · exact (hb.block b (by omega) (fun e => hn (.inr (.inr e))) (fun hr => by omega)).trans (h.but.block b hb1 hn)
theorem RuI.st (h : RuI U g6 g7 tb l A pv c) (h6 : g6 < U.heap.size) (h7 : g7 < U.heap.size) (ht : tb < U.heap.size) (ne : g6 ≠ tb ∧ g7 ≠ tb) : (∀ q, ownU g6 g7 A q → q < A.heap.size) ∧ ∀ C, ButR (fun b => b = tb) U.heap.size A C → ∀ q, ownU g6 g7 C q → ownU g6 g7 A q := by
  have sA := h.but.size
  refine ⟨fun q hq => ?_, fun C hb q hq => ?_⟩
  · rcases h.own.1 hq with e | e | e
    · omega
    · omega
    · exact (h.lt e).2
  · exact h.own.2 ((h.butR h6 h7 ht ne hb).own.1 hq)
/-- The last state is written. -/
theorem RuI.set6 (h : RuI U g6 g7 tb l V pv c) {x y z : Value} (hc : c = #[x, y, z]) (h6 : g6 < U.heap.size) (hne : g6 ≠ g7) (hn : n₀ ≤ g6) (a b d : Value) :
    KeepsOthers V (((V.setCell ⟨g6, 0, none⟩ a).setCell ⟨g6, 1, none⟩ b).setCell ⟨g6, 2, none⟩ d) ∧ KpO (ownU g6 g7) n₀ V (((V.setCell ⟨g6, 0, none⟩ a).setCell ⟨g6, 1, none⟩ b).setCell ⟨g6, 2, none⟩ d) ∧ RuI U g6 g7 tb l (((V.setCell ⟨g6, 0, none⟩ a).setCell ⟨g6, 1, none⟩ b).setCell ⟨g6, 2, none⟩ d) pv #[a, b, d] := by
  subst hc
  obtain ⟨V1, hV⟩ : ∃ V1, V1 = ((V.setCell ⟨g6, 0, none⟩ a).setCell ⟨g6, 1, none⟩ b).setCell ⟨g6, 2, none⟩ d := ⟨_, rfl⟩
  have oth : ∀ q, q ≠ g6 → V1.heap[q]? = V.heap[q]? := fun q hq => by rw [hV]; exact (Below.heap_setCell _ ⟨g6, 2, none⟩ d q hq).trans ((Below.heap_setCell _ ⟨g6, 1, none⟩ b q hq).trans (Below.heap_setCell _ ⟨g6, 0, none⟩ a q hq))
  have fin : V1.heap[g6]? = some (.cells #[a, b, d] 28 (0, 0)) := by
    rw [hV]
    have := set_row (set_row (set_row h.b6 0 a) 1 b) 2 d
    simpa using this
  have sz : V1.heap.size = V.heap.size := by rw [hV]; simp
  have B1 : But (fun b => b = g6 ∨ b = g7 ∨ b = tb) U V1 := by rw [hV]; exact ((h.but.set (.inl rfl) 0 a).set (.inl rfl) 1 b).set (.inl rfl) 2 d
  rw [← hV]
  clear hV
  have G : RuI U g6 g7 tb l V1 pv #[a, b, d] := ⟨Row.block h.row (fun q hq => oth q (by have := h.lt hq; omega)), (oth g7 (fun e => hne e.symm)).trans h.b7, fin, B1⟩
  refine ⟨⟨by omega, fun k o hk ho => (oth k (fun e => ?_)).trans hk⟩, ⟨by omega, fun q hq => .inl (h.own.2 (G.own.1 hq)), fun q hq => oth q (by omega), fun q cc t z hcc ho => (oth q (fun e => ho (.inl e))).trans hcc⟩, G⟩
  subst e
  rw [h.b6] at hk; cases hk; cases ho
/-- One more is passed. -/
theorem RuI.push (h : RuI U g6 g7 tb l V pv c) (h6 : g6 < U.heap.size) (h7 : g7 < U.heap.size) (hne : g6 ≠ g7) (hn : n₀ ≤ g7) {V2 V3 : World} (hb : Below V.heap.size V V2) (hg : V2.grownBy V3 pv.ownBlock) (hrow : Row V3 U.heap.size 9 1 eS pv' l') (hbk : pv'.ownBlock = pv.ownBlock ∨ pv'.ownBlock = some V2.heap.size) :
    KeepsOthers V (V3.setCell ⟨g7, 0, none⟩ pv') ∧ KpO (ownU g6 g7) n₀ V (V3.setCell ⟨g7, 0, none⟩ pv') ∧ RuI U g6 g7 tb l' (V3.setCell ⟨g7, 0, none⟩ pv') pv' c := by
  have sB := hb.size
  have sU := h.but.size
  have s3 := hg.size
  obtain ⟨V4, hV⟩ : ∃ V4, V4 = V3.setCell ⟨g7, 0, none⟩ pv' := ⟨_, rfl⟩
  have s4 : V4.heap.size = V3.heap.size := by rw [hV]; simp
  have oth : ∀ q, q ≠ g7 → V4.heap[q]? = V3.heap[q]? := fun q hq => by rw [hV]; exact Below.heap_setCell V3 ⟨g7, 0, none⟩ pv' q hq
  have keep3 : ∀ q, q < V.heap.size → pv.ownBlock ≠ some q → V3.heap[q]? = V.heap[q]? := fun q hq hv => (hg.block q (by omega) (fun e => hv e.symm)).trans (hb.block q hq)
  have keep : ∀ q, q < V.heap.size → q ≠ g7 → pv.ownBlock ≠ some q → V4.heap[q]? = V.heap[q]? := fun q hq h7' hv => (oth q h7').trans (keep3 q hq hv)
  have n7 : pv.ownBlock ≠ some g7 := fun e => by have := h.lt e; omega
  have n6 : pv.ownBlock ≠ some g6 := fun e => by have := h.lt e; omega
  have f7 : V4.heap[g7]? = some (.cells #[pv'] 29 (0, 0)) := by
    rw [hV, set_row ((keep3 g7 (by omega) n7).trans h.b7) 0 pv']; rfl
  have B4 : But (fun b => b = g6 ∨ b = g7 ∨ b = tb) U V4 := by
    rw [hV]
    refine But.set ?_ (.inr (.inl rfl)) 0 pv'
    exact ⟨hg.os.trans (hb.os.trans h.but.os), hg.tape.trans (hb.tape.trans h.but.tape), hg.output.trans (hb.output.trans h.but.output), by omega, fun q hq hno => (keep3 q (by omega) (fun e => by have := h.lt e; omega)).trans (h.but.block q hq hno)⟩
  rw [← hV]
  clear hV
  have G : RuI U g6 g7 tb l' V4 pv' c := ⟨Row.block hrow (fun q hq => oth q (by have := World.ownsRow.lt hrow q hq; omega)), f7, (keep g6 (by omega) hne n6).trans h.b6, B4⟩
  refine ⟨⟨by omega, fun k o hk ho => (keep k (Array.getElem?_eq_some_iff.1 hk).1 (fun e => ?_) (fun e => ?_)).trans hk⟩, ⟨by omega, fun q hq => ?_, fun q hq => keep q (by omega) (by omega) (fun e => by have := h.lt e; omega), fun q cc t z hcc ho => (keep q (Array.getElem?_eq_some_iff.1 hcc).1 (fun e => ho (.inr (.inl e))) (fun e => ho (h.own.2 (.inr (.inr e))))).trans hcc⟩, G⟩
  · subst e; rw [h.b7] at hk; cases hk; cases ho
  · obtain ⟨cur, hcur⟩ := rowU_cells h.row e
    rw [hcur] at hk; cases hk; cases ho
  · rcases G.own.1 hq with e | e | e
    · exact .inl (.inl e)
    · exact .inl (.inr (.inl e))
    · rcases hbk with e2 | e2
      · exact .inl (h.own.2 (.inr (.inr (e2.symm.trans e))))
      · rw [e2] at e; cases e; exact .inr (by omega)
end

end Go.Proofs.Ytkongeofapbblaa
