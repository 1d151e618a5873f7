/-
  The model's small functions of the book, where a region draws; the box of a struct. Taken out of Mq.
-/
import Derived.Test.YthleodbbppgadaaGreatMo
namespace Go.Proofs.YthleodbbppgadaaGreat
open Go.RowKit

open Go.Sort in
theorem stuffS_q (S : Nat → Prop) (v0 v1 v2 v3 : Value) (l : List DStuffLot) (x : ByteArray) (wr : World) (h : AtL S wr l v1) (hS : ∀ b, S b → b < wr.heap.size) (d : Nat) (os : Array Obj) : Calls Tryz.prog 75 #[.agg #[v0, v1, v2, v3], .string x] (grow (redrawn wr d) os) fun e w'' => e = .returned (.string (stuffOf l x)) ∧ ∃ p : Regrown, w'' = grow (redrawn wr p.d) p.os :=
  Calls.regrown_of (stuffS_any S v0 v1 v2 v3 l x _ (h.same (Same.of_below (below_regrown wr d os) hS)) (fun b hb => Nat.lt_of_lt_of_le (hS b hb) (below_regrown wr d os).size))
open Go.Sort in
theorem foesS_q (S : Nat → Prop) (v0 v1 v2 v3 : Value) (l : List DStuffFoe) (x y : ByteArray) (wr : World) (h : AtL S wr l v0) (hS : ∀ b, S b → b < wr.heap.size) (r : Bool) (hr : foeB l x y = r) (d : Nat) (os : Array Obj) : Calls Tryz.prog 76 #[.agg #[v0, v1, v2, v3], .string x, .string y] (grow (redrawn wr d) os) fun e w'' => e = .returned (.bool r) ∧ ∃ p : Regrown, w'' = grow (redrawn wr p.d) p.os :=
  Calls.regrown_of (by subst hr; exact foesS_any S v0 v1 v2 v3 l x y _ (h.same (Same.of_below (below_regrown wr d os) hS)) (fun b hb => Nat.lt_of_lt_of_le (hS b hb) (below_regrown wr d os).size))


theorem box_at {w : World} (o : Array Value) (t : TypeId) {wr : World} (hb : Below (w.heap.size + 1) (w.alloc (.cells o t)) wr) (j : Nat) (v : Value) (h : o[j]? = some v) : wr.cell? ⟨w.heap.size, j, none⟩ = some v := by
  refine (hb.cell (p := ⟨w.heap.size, j, none⟩) (by show w.heap.size < _; omega)).trans ?_
  simp only [World.cell?, heap_alloc_new, h]; rfl
theorem below_end {w wr : World} {o : Obj} (hb : Below (w.heap.size + 1) (w.alloc o) wr) : Below w.heap.size w wr :=
  ((Below.refl _ _).alloc (Nat.le_refl _) o).trans (hb.mono (by omega))
theorem below_of {w wr wr' : World} {o : Obj} (hb : Below (w.heap.size + 1) (w.alloc o) wr) (h : Below wr.heap.size wr wr') : Below (w.heap.size + 1) (w.alloc o) wr' :=
  hb.trans (h.mono (by have := hb.size; simp at this; exact this))

end Go.Proofs.YthleodbbppgadaaGreat
