/-
  A law for a call beside a box that is made meanwhile, in a region that draws its order: what the call makes and the box are two. No program is named here.
-/
import Derived.Test.YtkongeofapbbladHj
import Derived.Test.YtkongeofapbbladHi
import Derived.Test.YtkongeofapbbladHl
namespace Go.Proofs.Ytkongeofapbblad
open Go.RowKit Go.Sort

section
variable {P : Program}
theorem callAlloc {C : World → Prop} {Q : Exit → Act → World → Prop} {l : List Oper} {n : Nat} {listed : Array Bool} {ic ia dc da : Nat} {oc oa : Oper} {a : Act} {w : World} {fn : FuncId} {args : Array Value} (z : Array Value) (t : TypeId) (Post : Value → World → World → Prop)
    (hc : l.toArray[ic]? = some oc ∧ oc.guard = none ∧ oc.dst = some dc ∧ ic < n) (ha : l.toArray[ia]? = some oa ∧ oa.guard = none ∧ oa.dst = some da ∧ ia < n)
    (ne : dc ≠ da ∧ ic ≠ ia)
    (r0 : Region.ready .any l.toArray listed = [ic, ia]) (r1 : Region.ready .any l.toArray (listed.setIfInBounds ia true) = [ic]) (r2 : Region.ready .any l.toArray (listed.setIfInBounds ic true) = [ia])
    (hCB : ∀ u, Below w.heap.size w u → C u) (run : ∀ u, (execOp a.eval oc).run P u = .ok (.enter fn args) u) (run' : ∀ v u, (execOp (a.put (some da) v).eval oc).run P u = .ok (.enter fn args) u)
    (con : ∀ u, Below w.heap.size w u → Calls P fn args u fun e u' => ∃ v, e = .returned v ∧ Post v u u' ∧ Below u.heap.size u u')
    (exa : ∀ (b : Act) (u : World), (execOp b.eval oa).run P u = .ok (.value (.pointer (some ⟨u.heap.size, 0, none⟩))) (u.alloc (.cells z t)))
    (K : ∀ v pB u1 u2 u, Below w.heap.size w u1 → Post v u1 u2 → Below u1.heap.size u1 u2 → Below u2.heap.size u2 u → (pB < u1.heap.size ∨ u2.heap.size ≤ pB) → u.heap[pB]? = some (.cells z t (0, 0)) → w.heap.size ≤ pB → Below w.heap.size w u → tailC P Q l n ((listed.setIfInBounds ic true).setIfInBounds ia true) ((a.put (some dc) v).put (some da) (.pointer (some ⟨pB, 0, none⟩))) u) :
    anyH P .any l.toArray C n (tailC P Q l n) 2 listed a w := by
  obtain ⟨hc1, hc2, hc3, hc4⟩ := hc
  obtain ⟨ha1, ha2, ha3, ha4⟩ := ha
  obtain ⟨n1, m1⟩ := ne
  have st : ∀ u : World, w.heap.size ≤ u.heap.size → Below w.heap.size w u → Below w.heap.size w (u.alloc (.cells z t)) := fun u hs hu => hu.alloc hs _
  refine twoH ic ia r0 ⟨hc4, ha4⟩ ?_ ?_
  · refine stepH_call hc1 (wanted_none hc2 _) (run w) ((con w (Below.refl _ _)).mono fun e u ⟨p, he, hp, hu⟩ => ⟨_, he, hCB u hu, ?_⟩)
    rw [hc3]
    refine oneH _ _ ⟨ha1, ha4⟩ r2 (wanted_none ha2 _) (exa _ u) (hCB _ (st u hu.size hu)) ?_
    rw [ha3]
    exact K p _ w u _ (Below.refl _ _) hp hu ((Below.refl _ _).alloc (Nat.le_refl _) _) (.inr (Nat.le_refl _)) (heap_alloc_new u _) hu.size (st u hu.size hu)
  · have hw0 := st w (Nat.le_refl _) (Below.refl _ _)
    refine stepH_value _ _ ha1 (wanted_none ha2 _) (exa _ w) ⟨hCB _ hw0, ?_⟩
    rw [ha3]
    refine callH ⟨hc1, hc4⟩ r1 (wanted_none hc2 _) (run' _ _) ((con _ hw0).mono fun e u ⟨p, he, hp, hu⟩ => ?_)
    have hbu : Below w.heap.size w u := hw0.trans (hu.mono (by simp))
    refine ⟨_, he, hCB u hbu, ?_⟩
    rw [hc3]
    have hk := K p w.heap.size _ u u hw0 hp hu (Below.refl _ _) (.inl (by simp)) ((hu.block _ (by simp)).trans (heap_alloc_new w _)) (Nat.le_refl _) hbu
    rw [Array.setIfInBounds_comm _ _ (Ne.symm m1)]
    rw [Act.put_comm (a := a) _ _ (fun d hd => by cases hd; simpa using n1)]
    exact hk
end

end Go.Proofs.Ytkongeofapbblad
