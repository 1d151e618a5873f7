/-
  Small laws on two boxes of a call, and on the first part of a list.
-/
import Derived.Test.YtffmfomonmhkcaaGreatKa
namespace Go.Proofs.YtffmfomonmhkcaaGreat
open Go.RowKit

/-- Two boxes, one behind the other. -/
theorem two_box {w wr : World} {c d : Array Value} {t u : TypeId} (hb : Below (w.heap.size + 1 + 1) ((w.alloc (.cells c t)).alloc (.cells d u)) wr) :
    (∀ (j : Nat) (v : Value), c[j]? = some v → wr.cell? ⟨w.heap.size, j, none⟩ = some v) ∧ ∀ (j : Nat) (v : Value), d[j]? = some v → wr.cell? ⟨w.heap.size + 1, j, none⟩ = some v := by
  have e : (w.alloc (.cells c t)).heap.size = w.heap.size + 1 := by simp
  constructor
  · intro j v h
    exact (hb.cell (p := ⟨w.heap.size, j, none⟩) (by show w.heap.size < _; omega)).trans (cell_past (new_cell w c t j v h) (by simp) _)
  · intro j v h
    have := new_cell (w.alloc (.cells c t)) d u j v h
    rw [e] at this
    exact (hb.cell (p := ⟨w.heap.size + 1, j, none⟩) (by show w.heap.size + 1 < _; omega)).trans this

theorem two_end {w wr : World} {o o' : Obj} (hb : Below (w.heap.size + 1 + 1) ((w.alloc o).alloc o') wr) : Below w.heap.size w wr :=
  (((Below.refl _ _).alloc (Nat.le_refl _) o).alloc (by simp) o').trans (hb.mono (by omega))

theorem two_of2 {w wr wr' : World} {o o' : Obj} (hb : Below (w.heap.size + 1 + 1) ((w.alloc o).alloc o') wr) (h : Below wr.heap.size wr wr') : Below (w.heap.size + 1 + 1) ((w.alloc o).alloc o') wr' :=
  hb.trans (h.mono (by have := hb.size; simp at this; exact this))

theorem Lst.first {B : Nat} {w : World} {oa : Option Addr} {n cap q k : Nat} {c : Nat → Nat → Value} (h : Lst B w (.slice oa n cap) n k c) (hq : q ≤ n) : Lst B w (.slice oa q cap) q k c := by
  obtain ⟨oa', cap', hv, hn, hc⟩ := h
  cases hv
  exact ⟨oa, cap, rfl, by omega, fun i hi => hc i (by omega)⟩

end Go.Proofs.YtffmfomonmhkcaaGreat
