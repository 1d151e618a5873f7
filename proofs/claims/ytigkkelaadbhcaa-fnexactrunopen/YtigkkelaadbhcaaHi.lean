/-
  A law on the statement 'append(append(append([]T{}, xs[:k]...), x), xs[k:]...)' in a region that draws its order: whatever order, a new list of the call's own. No program is named here.
-/
import Derived.Test.YtigkkelaadbhcaaHm
import Derived.Laws.OwnMore
namespace Go.Proofs.Ytigkkelaadbhcaa
open Go.RowKit Go.Sort

section
variable {P : Program}

/-- Where the cells lie that are put in: nowhere, if there are none. -/
def Src (w : World) (v : Value) (m size : Nat) (news : List Value) : Prop :=
  news.length = m * size ∧ ((v = .slice none 0 0 ∧ m = 0) ∨ ∃ ad c, v = .slice (some ad) m c ∧ ∀ (j : Nat) (u : Value), news[j]? = some u → w.cell? (ad.add j) = some u)
theorem Src.below {w w' : World} {v : Value} {m size : Nat} {news : List Value} (h : Src w v m size news) (hb : Below w.heap.size w w') : Src w' v m size news := by
  refine ⟨h.1, ?_⟩
  rcases h.2 with h | ⟨ad, c, hv, hc⟩
  · exact .inl h
  · exact .inr ⟨ad, c, hv, fun j u hj => (hb.cell (World.block_lt_of_cell? w _ (hc j u hj))).trans (hc j u hj)⟩
theorem Src.grown {w w' : World} {v : Value} {m size : Nat} {news : List Value} {row : Option Nat} (h : Src w v m size news) (hg : w.grownBy w' row) (hne : ∀ ad n c, v = .slice (some ad) n c → some ad.block ≠ row) : Src w' v m size news := by
  refine ⟨h.1, ?_⟩
  rcases h.2 with h | ⟨ad, c, hv, hc⟩
  · exact .inl h
  · exact .inr ⟨ad, c, hv, fun j u hj => hg.cell (hc j u hj) (by have := hne ad m c hv; unfold Addr.add; split <;> exact this)⟩
theorem add_at (b o j : Nat) : (⟨b, o, none⟩ : Addr).add j = ⟨b, o + j, none⟩ := by
  unfold Addr.add
  split
  · rename_i h; subst h; rfl
  · rfl
/-- What is asked of the elements' type. -/
structure ElT (P : Program) (t e : TypeId) (size bytes : Nat) : Prop where
  ht : P.underlying t = some (.slice e)
  info : ∃ i z, P.info? e = some i ∧ i.zero = some z ∧ i.size = size ∧ i.bytes = bytes ∧ z.cells.size = size
  pos : 0 < size
/-- The five operations of the statement that make memory, their slots. -/
structure Ins (P : Program) (md : Region.Mode) (ops : Array Oper) (n : Nat) (t e : TypeId) (listed : Array Bool) (i0 i1 i2 i3 i4 d0 d1 d2 d3 d4 k1 k2 kx : Nat) (X : Value) where
  o0 : Oper
  o1 : Oper
  o2 : Oper
  o3 : Oper
  o4 : Oper
  at0 : ops[i0]? = some o0 ∧ o0.guard = none ∧ o0.dst = some d0 ∧ i0 < n
  at1 : ops[i1]? = some o1 ∧ o1.guard = none ∧ o1.dst = some d1 ∧ i1 < n
  at2 : ops[i2]? = some o2 ∧ o2.guard = none ∧ o2.dst = some d2 ∧ i2 < n
  at3 : ops[i3]? = some o3 ∧ o3.guard = none ∧ o3.dst = some d3 ∧ i3 < n
  at4 : ops[i4]? = some o4 ∧ o4.guard = none ∧ o4.dst = some d4 ∧ i4 < n
  op1 : o1.op = .call { callee := .builtin .append, args := #[.tmp d0, .tmp k1], argTypes := #[t, t] }
  op3 : o3.op = .call { callee := .builtin .append, args := #[.tmp d1, .tmp d2], argTypes := #[t, t] }
  op4 : o4.op = .call { callee := .builtin .append, args := #[.tmp d3, .tmp k2], argTypes := #[t, t] }
  run0 : ∀ (b : Act) (w : World), (execOp b.eval o0).run P w = .ok (.value (.slice (some ⟨w.heap.size, 0, none⟩) 0 0)) (w.alloc (.cells #[] e))
  run2 : ∀ (b : Act), b.eval (.tmp kx) = X → ∀ w : World, (execOp b.eval o2).run P w = .ok (.value (.slice (some ⟨w.heap.size, 0, none⟩) 1 1)) (w.alloc (.cells X.cells e))
  ne : [d0, d1, d2, d3, d4, k1, k2, kx].Nodup
  ni : [i0, i1, i2, i3, i4].Nodup
  r : Region.ready md ops listed = [i0, i2]
  r0 : Region.ready md ops (listed.setIfInBounds i0 true) = [i1, i2]
  r2 : Region.ready md ops (listed.setIfInBounds i2 true) = [i0]
  r01 : Region.ready md ops ((listed.setIfInBounds i0 true).setIfInBounds i1 true) = [i2]
  r02 : Region.ready md ops ((listed.setIfInBounds i0 true).setIfInBounds i2 true) = [i1]
  r3 : Region.ready md ops (((listed.setIfInBounds i0 true).setIfInBounds i1 true).setIfInBounds i2 true) = [i3]
  r4 : Region.ready md ops ((((listed.setIfInBounds i0 true).setIfInBounds i1 true).setIfInBounds i2 true).setIfInBounds i3 true) = [i4]
theorem one_list {i : Nat} {p : Nat → Prop} (h : p i) : ∀ j ∈ [i], p j := fun j hj => by
  obtain rfl := List.mem_singleton.1 hj; exact h
end
end Go.Proofs.Ytigkkelaadbhcaa
