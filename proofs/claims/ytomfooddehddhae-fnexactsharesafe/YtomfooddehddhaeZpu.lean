/-
  What the loop over those who go keeps in its box: the names so far.
-/
import Derived.Test.YtomfooddehddhaeZph
import Derived.Test.YtomfooddehddhaeXsr
namespace Go.Proofs.Ytomfooddehddhae
open Go.RowKit

/-- What the loop owns. -/
def ownO (g5 : Nat) : World → Nat → Prop := fun W q => q = g5 ∨ ∃ pv, W.heap[g5]? = some (.cells #[pv] 22 (0, 0)) ∧ pv.ownBlock = some q
structure OrI (U : World) (g5 : Nat) (Tt : Nat → Prop) (l : List ByteArray) (X : World) (pv : Value) : Prop where
  row : Row X U.heap.size 9 1 eS pv l
  b5 : X.heap[g5]? = some (.cells #[pv] 22 (0, 0))
  but : But (fun b => b = g5 ∨ Tt b) U X
theorem rowO_cells {w : World} {B t : Nat} {v : Value} {l : List ByteArray} (h : Row w B t 1 eS v l) {g : Nat} (hg : v.ownBlock = some g) : ∃ cur, w.heap[g]? = some (.cells cur t (0, 0)) := by
  rcases h.2 with ⟨rfl, _⟩ | ⟨g', cap, cur, rfl, _, hgg, _⟩
  · cases hg
  · cases hg; exact ⟨cur, hgg⟩
section
variable {U A C V : World} {g5 n₀ : Nat} {Tt : Nat → Prop} {l l' : List ByteArray} {pv pv' : Value}
theorem OrI.lt (h : OrI U g5 Tt l A pv) {q : Nat} (hq : pv.ownBlock = some q) : U.heap.size ≤ q ∧ q < A.heap.size := World.ownsRow.lt h.row q hq
theorem OrI.own (h : OrI U g5 Tt l A pv) {q : Nat} : ownO g5 A q ↔ q = g5 ∨ pv.ownBlock = some q := by
  constructor
  · rintro (e | ⟨u, hu, ho⟩)
    · exact .inl e
    · rw [h.b5] at hu; cases hu; exact .inr ho
  · rintro (e | ho)
    · exact .inl e
    · exact .inr ⟨pv, h.b5, ho⟩
theorem OrI.butR {T' : Nat → Prop} (h : OrI U g5 Tt l A pv) (h5 : g5 < U.heap.size) (ht : ∀ b, T' b → Tt b ∧ b < U.heap.size) (ne : ¬ Tt g5) (hb : ButR T' U.heap.size A C) : OrI U g5 Tt l C pv := by
  have sA := h.but.size
  refine ⟨Row.block h.row (fun q hq => ?_), ?_, ⟨hb.os.trans h.but.os, hb.tape.trans h.but.tape, hb.output.trans h.but.output, Nat.le_trans sA hb.size, fun b hb1 hn => ?_⟩⟩
  · obtain ⟨cur, hc⟩ := rowO_cells h.row hq
    have hl := h.lt hq
    exact hb.block q hl.2 (fun e => by have := (ht q e).2; omega) (fun hr => by obtain ⟨_, o, ho, hoc⟩ := hr; rw [hc] at ho; cases ho; cases hoc)
  · exact (hb.block g5 (by omega) (fun e => ne (ht _ e).1) (fun hr => by omega)).trans h.b5
  · exact (hb.block b (by omega) (fun e => hn (.inr (ht _ e).1)) (fun hr => by omega)).trans (h.but.block b hb1 hn)
theorem OrI.st (h : OrI U g5 Tt l A pv) (h5 : g5 < U.heap.size) (ht : ∀ b, Tt b → b < U.heap.size) (ne : ¬ Tt g5) : (∀ q, ownO g5 A q → q < A.heap.size) ∧ ∀ C, ButR Tt U.heap.size A C → ∀ q, ownO g5 C q → ownO g5 A q := by
  have sA := h.but.size
  refine ⟨fun q hq => ?_, fun C hb q hq => ?_⟩
  · rcases h.own.1 hq with e | e
    · omega
    · exact (h.lt e).2
  · exact h.own.2 ((h.butR h5 (fun b hb => ⟨hb, ht b hb⟩) ne hb).own.1 hq)
/-- One name more. -/
theorem OrI.push (h : OrI U g5 Tt l V pv) (h5 : g5 < U.heap.size) (hn : n₀ ≤ g5) {V2 V3 : World} (hb : Below V.heap.size V V2) (hg : V2.grownBy V3 pv.ownBlock) (hrow : Row V3 U.heap.size 9 1 eS pv' l') (hbk : pv'.ownBlock = pv.ownBlock ∨ pv'.ownBlock = some V2.heap.size) :
    KeepsOthers V (V3.setCell ⟨g5, 0, none⟩ pv') ∧ KpO (ownO g5) n₀ V (V3.setCell ⟨g5, 0, none⟩ pv') ∧ OrI U g5 Tt l' (V3.setCell ⟨g5, 0, none⟩ pv') pv' := by
  have sB := hb.size
  have sU := h.but.size
  have s3 := hg.size
  obtain ⟨V4, hV⟩ : ∃ V4, V4 = V3.setCell ⟨g5, 0, none⟩ pv' := ⟨_, rfl⟩
  have s4 : V4.heap.size = V3.heap.size := by rw [hV]; simp
  have oth : ∀ q, q ≠ g5 → V4.heap[q]? = V3.heap[q]? := fun q hq => by rw [hV]; exact Below.heap_setCell V3 ⟨g5, 0, none⟩ pv' q hq
  have keep3 : ∀ q, q < V.heap.size → pv.ownBlock ≠ some q → V3.heap[q]? = V.heap[q]? := fun q hq hv => (hg.block q (by omega) (fun e => hv e.symm)).trans (hb.block q hq)
  have keep : ∀ q, q < V.heap.size → q ≠ g5 → pv.ownBlock ≠ some q → V4.heap[q]? = V.heap[q]? := fun q hq h7' hv => (oth q h7').trans (keep3 q hq hv)
  have n5 : pv.ownBlock ≠ some g5 := fun e => by have := h.lt e; omega
  have f5 : V4.heap[g5]? = some (.cells #[pv'] 22 (0, 0)) := by
    rw [hV, set_row ((keep3 g5 (by omega) n5).trans h.b5) 0 pv']; rfl
  have B4 : But (fun b => b = g5 ∨ Tt b) U V4 := by
    rw [hV]
    refine But.set ?_ (.inl rfl) 0 pv'
    exact ⟨hg.os.trans (hb.os.trans h.but.os), hg.tape.trans (hb.tape.trans h.but.tape), hg.output.trans (hb.output.trans h.but.output), by omega, fun q hq hno => (keep3 q (by omega) (fun e => by have := h.lt e; omega)).trans (h.but.block q hq hno)⟩
  rw [← hV]
  clear hV
  have G : OrI U g5 Tt l' V4 pv' := ⟨Row.block hrow (fun q hq => oth q (by have := World.ownsRow.lt hrow q hq; omega)), f5, B4⟩
  refine ⟨⟨by omega, fun k o hk ho => (keep k (Array.getElem?_eq_some_iff.1 hk).1 (fun e => ?_) (fun e => ?_)).trans hk⟩, ⟨by omega, fun q hq => ?_, fun q hq => keep q (by omega) (by omega) (fun e => by have := h.lt e; omega), fun q cc t z hcc ho => (keep q (Array.getElem?_eq_some_iff.1 hcc).1 (fun e => ho (.inl e)) (fun e => ho (h.own.2 (.inr e)))).trans hcc⟩, G⟩
  · subst e; rw [h.b5] at hk; cases hk; cases ho
  · obtain ⟨cur, hcur⟩ := rowO_cells h.row e
    rw [hcur] at hk; cases hk; cases ho
  · rcases G.own.1 hq with e | e
    · exact .inl (.inl e)
    · rcases hbk with e2 | e2
      · exact .inl (h.own.2 (.inr (e2.symm.trans e)))
      · rw [e2] at e; cases e; exact .inr (by omega)
end
/-- What is kept while others are written. -/
theorem Lv.butR {B g N : Nat} {A C : World} {v : Value} {L : List (Nat × Nat × Bool)} {fr : Nat} (h : Lv B A g v L fr) (hb : ButR (fun _ => False) N A C) : Lv B C g v L fr :=
  ⟨Row.block h.row fun q hq => by
    obtain ⟨c, hc⟩ := Row.typed h.row q hq
    exact hb.block q (World.ownsRow.lt h.row q hq).2 (fun e => e) (fun hr => by obtain ⟨_, o, ho, hoc⟩ := hr; rw [hc] at ho; cases ho; cases hoc), (hb.block g h.lt (fun e => e) (fun hr => by obtain ⟨_, o, ho, hoc⟩ := hr; rw [h.box] at ho; cases ho; cases hoc)).trans h.box, h.low⟩

end Go.Proofs.Ytomfooddehddhae
