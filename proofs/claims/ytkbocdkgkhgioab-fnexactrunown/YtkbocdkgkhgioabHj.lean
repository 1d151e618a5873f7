/-
  Laws on a region that draws its order, step by step: moves first, one that looks at no memory, a call. No program is named here.
-/
import Derived.Test.YtkbocdkgkhgioabHh
namespace Go.Proofs.Ytkbocdkgkhgioab
open Go.Sort

section
variable {P : Program}

/-- What is listed is closed, and none of the tail is. -/
def invB (ops : Array Oper) (n : Nat) (listed : Array Bool) : Bool :=
  listed.size == ops.size &&
  (List.range ops.size).all (fun j => !listed.getD j false || (match ops[j]? with | some o => o.after.all (fun e => !Region.binds .any e || listed.getD e.on false) | none => true)) &&
  (List.range ops.size).all (fun t => decide (t < n) || !listed.getD t true)
theorem inv_of {ops : Array Oper} {n : Nat} {listed : Array Bool} (h : invB ops n listed = true) : HeadInv .any ops n listed := by
  simp only [invB, Bool.and_eq_true, beq_iff_eq, List.all_eq_true, List.mem_range] at h
  obtain ⟨⟨h1, h2⟩, h3⟩ := h
  refine ⟨h1, fun j oj hj hl e he hb => ?_, fun t ht hts => ?_⟩
  · have hjs : j < ops.size := (Array.getElem?_eq_some_iff.1 hj).1
    have h4 := h2 j hjs
    rw [hl, hj] at h4
    simp only [Bool.not_true, Bool.false_or] at h4
    have h5 := (Array.all_eq_true'.1 h4) e he
    rw [hb] at h5
    simpa using h5
  · have h4 := h3 t hts
    simp only [Bool.or_eq_true, decide_eq_true_eq, Bool.not_eq_true'] at h4
    rcases h4 with h4 | h4
    · omega
    · exact h4

/-- One of the head that may be taken first. -/
def takeB (l : List Oper) (n : Nat) (listed : Array Bool) (i : Nat) : Bool :=
  Region.noSelect l.toArray && decide (n < l.length) && decide (i < n) && waitB .any l.toArray n (Array.replicate l.length false) && Region.chainB .any l.toArray n && (Region.ready .any l.toArray listed).contains i && Region.free .any l.toArray listed i && invB l.toArray n listed

theorem takeH {Q : Exit → Act → World → Prop} {l : List Oper} {n f : Nat} {listed : Array Bool} {i : Nat} {oi : Oper} {a : Act} {w : World} (v : Value) (hi : l.toArray[i]? = some oi) (hB : takeB l n listed i = true) (hw : Region.wanted oi (yielded l.toArray a.tmps) = true) (hrun : ∀ w, (execOp a.eval oi).run P w = .ok (.value v) w)
    (h : anyH P .any l.toArray (fun _ => True) n (tailC P Q l n) f (listed.setIfInBounds i true) (a.put oi.dst v) w) : anyH P .any l.toArray (fun _ => True) n (tailC P Q l n) (f + 1) listed a w := by
  simp only [takeB, Bool.and_eq_true, decide_eq_true_eq] at hB
  obtain ⟨⟨⟨⟨⟨⟨⟨hsel, hn⟩, hin⟩, hs⟩, hc⟩, hr⟩, hf⟩, hv⟩ := hB
  have hr' : i ∈ Region.ready .any l.toArray listed := by simpa using hr
  exact anyH_first hi hsel hs hc (by simpa using hn) hin (fun listed a w hL => seqB_ready hL.1) f listed a w trivial (inv_of hv) (fun k hk => by rw [getD_replicate_false] at hk; cases hk) (Region.free_spec hi hf) hr' (.inl ⟨hw, fun w _ => hrun w⟩) h

/-- Moves first. -/
def movesB (l : List Oper) (n : Nat) (ks : List Nat) : Bool :=
  Region.noSelect l.toArray && decide (n < l.length) && decide (ks.length ≤ n) && waitB .any l.toArray n (Array.replicate l.length false) && Region.chainB .any l.toArray n && mixV .any l.toArray n ks (Array.replicate l.length false)
theorem wp_region_moves {id : Nat} {Q : Exit → Act → World → Prop} {a : Act} {w : World} {l : List Oper} (n : Nat) (ks : List Nat) (hm : P.follows .mixedOrders = true) (hB : movesB l n ks = true)
    (h : anyH P .any l.toArray (fun _ => True) n (tailC P Q l n) (n - ks.length) (doneV l ks) (movD (ks.filterMap fun k => l[k]?) a) w.drew) : (Code.region id l.toArray true).wp P Q a w := by
  simp only [movesB, Bool.and_eq_true, decide_eq_true_eq] at hB
  obtain ⟨⟨⟨⟨⟨hsel, hn⟩, hkn⟩, hs1⟩, hc1⟩, hm1⟩ := hB
  have hn' : n < l.toArray.size := by simpa using hn
  have hdl : (l.drop n).length = l.length - n := by simp
  have inv1 : HeadInv .any l.toArray n (Array.replicate l.length false) :=
    ⟨by simp, fun j oj _ hl => (by rw [getD_replicate_false] at hl; cases hl), fun t _ ht => getD_in (by simpa using ht) (getD_replicate_false _ _)⟩
  have H0 := anyH_moves (P := P) (md := .any) (C := fun _ => True) (L := tailC P Q l n) hsel hs1 hc1 hn' (fun listed a w hL => seqB_ready hL.1) _ w.drew trivial ks _ _ a (mixV_ops ks _ hm1) inv1 (fun k hk => hk) hm1 h
  have G := any_of_H (Q := Q) (g := l.length - n) (fun listed a' w' hL => by
    have := wpAny_of_seq (P := P) (md := .any) (ops := l.toArray) (Q' := Q) (l.drop n) n listed a' w' (fun j => by simp [List.getElem?_drop]) (by rw [hdl]; exact hL.1) hL.2
    rwa [hdl] at this) _ _ _ _ H0
  rw [show ks.length + (n - ks.length) + (l.length - n) = l.toArray.size by simp; omega] at G
  refine wp_region_any hm ?_
  simpa using G

variable {ops : Array Oper} {C : World → Prop} {n : Nat} {L : Array Bool → Act → World → Prop}
/-- Two may come up. -/
theorem twoH {f : Nat} {listed : Array Bool} {a : Act} {w : World} (i j : Nat) (r0 : Region.ready .any ops listed = [i, j]) (hin : i < n ∧ j < n)
    (hi : stepH P ops i (fun a' w' => C w' ∧ anyH P .any ops C n L f (listed.setIfInBounds i true) a' w') a w) (hj : stepH P ops j (fun a' w' => C w' ∧ anyH P .any ops C n L f (listed.setIfInBounds j true) a' w') a w) : anyH P .any ops C n L (f + 1) listed a w := by
  refine ⟨by rw [r0]; simp, fun k hk => ?_⟩
  rw [r0] at hk
  rcases List.mem_cons.1 hk with rfl | hk
  · exact ⟨hin.1, hi⟩
  · obtain rfl := List.mem_singleton.1 hk
    exact ⟨hin.2, hj⟩
theorem stepH_value {i : Nat} {K : Act → World → Prop} {oc : Oper} {a : Act} {w : World} (u : Value) (w' : World) (hc : ops[i]? = some oc) (hw : Region.wanted oc (yielded ops a.tmps) = true) (run : (execOp a.eval oc).run P w = .ok (.value u) w') (hk : K (a.put oc.dst u) w') : stepH P ops i K a w :=
  ⟨oc, hc, .inl ⟨hw, u, w', run, hk⟩⟩
theorem stepH_call {i : Nat} {K : Act → World → Prop} {oc : Oper} {a : Act} {w : World} {fn : FuncId} {args : Array Value} (hc : ops[i]? = some oc) (hw : Region.wanted oc (yielded ops a.tmps) = true) (run : (execOp a.eval oc).run P w = .ok (.enter fn args) w) (con : Calls P fn args w fun e w' => ∃ v, e = .returned v ∧ K (a.put oc.dst v) w') : stepH P ops i K a w :=
  ⟨oc, hc, .inr (.inl ⟨hw, fn, args, run, con⟩)⟩
theorem callH {f : Nat} {listed : Array Bool} {i : Nat} {oc : Oper} {a : Act} {w : World} {fn : FuncId} {args : Array Value} (hc : ops[i]? = some oc ∧ i < n) (r0 : Region.ready .any ops listed = [i]) (hw : Region.wanted oc (yielded ops a.tmps) = true)
    (run : (execOp a.eval oc).run P w = .ok (.enter fn args) w) (con : Calls P fn args w fun e w' => ∃ v, e = .returned v ∧ C w' ∧ anyH P .any ops C n L f (listed.setIfInBounds i true) (a.put oc.dst v) w') : anyH P .any ops C n L (f + 1) listed a w := by
  refine ⟨by rw [r0]; simp, fun j hj => ?_⟩
  rw [r0] at hj
  obtain rfl := List.mem_singleton.1 hj
  exact ⟨hc.2, stepH_call hc.1 hw run con⟩

end
end Go.Proofs.Ytkbocdkgkhgioab
