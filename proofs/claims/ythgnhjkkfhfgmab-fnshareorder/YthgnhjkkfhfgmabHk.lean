/-
  Laws on a region that draws its order, step by step, with the place that is written told: what is put stays small. No program is named here.
-/
import Derived.Test.YthgnhjkkfhfgmabHj
namespace Go.Proofs.Ythgnhjkkfhfgmab
open Go.Sort

section
variable {P : Program}
theorem takeHd {Q : Exit → Act → World → Prop} {l : List Oper} {n f : Nat} {listed : Array Bool} {i d : Nat} {oi : Oper} {a : Act} {w : World} (v : Value) (hi : l.toArray[i]? = some oi ∧ oi.dst = some d) (hB : takeB l n listed i = true) (hw : Region.wanted oi (yielded l.toArray a.tmps) = true) (hrun : ∀ w, (execOp a.eval oi).run P w = .ok (.value v) w)
    (h : anyH P .any l.toArray (fun _ => True) n (tailC P Q l n) f (listed.setIfInBounds i true) (a.put (some d) v) w) : anyH P .any l.toArray (fun _ => True) n (tailC P Q l n) (f + 1) listed a w := by
  obtain ⟨h1, h2⟩ := hi
  refine takeH v h1 hB hw hrun ?_
  rw [h2]; exact h
variable {ops : Array Oper} {C : World → Prop} {n : Nat} {L : Array Bool → Act → World → Prop}
theorem oneHd {f : Nat} {listed : Array Bool} {i d : Nat} {oc : Oper} {a : Act} {w : World} (u : Value) (w' : World)
    (hc : ops[i]? = some oc ∧ oc.dst = some d) (hin : i < n) (r0 : Region.ready .any ops listed = [i]) (hw : Region.wanted oc (yielded ops a.tmps) = true)
    (run : (execOp a.eval oc).run P w = .ok (.value u) w') (hC : C w') (h : anyH P .any ops C n L f (listed.setIfInBounds i true) (a.put (some d) u) w') : anyH P .any ops C n L (f + 1) listed a w := by
  refine oneH u w' ⟨hc.1, hin⟩ r0 hw run hC ?_
  rw [hc.2]; exact h
theorem stepHd {i d : Nat} {K : Act → World → Prop} {oc : Oper} {a : Act} {w : World} (u : Value) (w' : World) (hc : ops[i]? = some oc ∧ oc.dst = some d) (hw : Region.wanted oc (yielded ops a.tmps) = true) (run : (execOp a.eval oc).run P w = .ok (.value u) w') (hk : K (a.put (some d) u) w') : stepH P ops i K a w := by
  refine stepH_value u w' hc.1 hw run ?_
  rw [hc.2]; exact hk
theorem stepHc {i d : Nat} {K : Act → World → Prop} {oc : Oper} {a : Act} {w : World} {fn : FuncId} {args : Array Value} (hc : ops[i]? = some oc ∧ oc.dst = some d) (hw : Region.wanted oc (yielded ops a.tmps) = true) (run : (execOp a.eval oc).run P w = .ok (.enter fn args) w) (con : Calls P fn args w fun e w' => ∃ v, e = .returned v ∧ K (a.put (some d) v) w') : stepH P ops i K a w :=
  stepH_call hc.1 hw run (con.mono fun e w' ⟨v, he, hk⟩ => ⟨v, he, by rw [hc.2]; exact hk⟩)
theorem callHd {f : Nat} {listed : Array Bool} {i d : Nat} {oc : Oper} {a : Act} {w : World} {fn : FuncId} {args : Array Value} (hc : ops[i]? = some oc ∧ oc.dst = some d) (hin : i < n) (r0 : Region.ready .any ops listed = [i]) (hw : Region.wanted oc (yielded ops a.tmps) = true)
    (run : (execOp a.eval oc).run P w = .ok (.enter fn args) w) (con : Calls P fn args w fun e w' => ∃ v, e = .returned v ∧ C w' ∧ anyH P .any ops C n L f (listed.setIfInBounds i true) (a.put (some d) v) w') : anyH P .any ops C n L (f + 1) listed a w :=
  callH ⟨hc.1, hin⟩ r0 hw run (con.mono fun e w' ⟨v, he, h1, h2⟩ => ⟨v, he, h1, by rw [hc.2]; exact h2⟩)
theorem storeHd {f : Nat} {listed : Array Bool} {i : Nat} {oc : Oper} {a : Act} {w : World} (w' : World)
    (hc : ops[i]? = some oc ∧ oc.dst = none) (hin : i < n) (r0 : Region.ready .any ops listed = [i]) (hw : Region.wanted oc (yielded ops a.tmps) = true)
    (run : (execOp a.eval oc).run P w = .ok .skip w') (hC : C w') (h : anyH P .any ops C n L f (listed.setIfInBounds i true) a w') : anyH P .any ops C n L (f + 1) listed a w := by
  refine storeH w' ⟨hc.1, hin⟩ r0 hw run hC ?_
  rw [hc.2]; exact h
end
end Go.Proofs.Ythgnhjkkfhfgmab
