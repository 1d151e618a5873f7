/-
  Laws on a region that draws its order, step by step, in a class of worlds. No program is named here.
-/
import Derived.Test.YthgnhjkkfhfgmabHk
namespace Go.Proofs.Ythgnhjkkfhfgmab
open Go.Sort

section
variable {P : Program}
/-- The same laws in a class of worlds: what only reads what is the same in all of them is taken first. -/
theorem wp_region_movesC {id : Nat} {Q : Exit → Act → World → Prop} {a : Act} {w : World} {l : List Oper} (C : World → Prop) (n : Nat) (ks : List Nat) (hm : P.follows .mixedOrders = true) (hB : movesB l n ks = true) (hC : C w.drew)
    (h : anyH P .any l.toArray C n (tailC P Q l n) (n - ks.length) (doneV l ks) (movD (ks.filterMap fun k => l[k]?) a) w.drew) : (Code.region id l.toArray true).wp P Q a w := by
  simp only [movesB, Bool.and_eq_true, decide_eq_true_eq] at hB
  obtain ⟨⟨⟨⟨⟨hsel, hn⟩, hkn⟩, hs1⟩, hc1⟩, hm1⟩ := hB
  have hn' : n < l.toArray.size := by simpa using hn
  have hdl : (l.drop n).length = l.length - n := by simp
  have inv1 : HeadInv .any l.toArray n (Array.replicate l.length false) :=
    ⟨by simp, fun j oj _ hl => (by rw [getD_replicate_false] at hl; cases hl), fun t _ ht => getD_in (by simpa using ht) (getD_replicate_false _ _)⟩
  have H0 := anyH_moves (P := P) (md := .any) (C := C) (L := tailC P Q l n) hsel hs1 hc1 hn' (fun listed a w hL => seqB_ready hL.1) _ w.drew hC ks _ _ a (mixV_ops ks _ hm1) inv1 (fun k hk => hk) hm1 h
  have G := any_of_H (Q := Q) (g := l.length - n) (fun listed a' w' hL => by
    have := wpAny_of_seq (P := P) (md := .any) (ops := l.toArray) (Q' := Q) (l.drop n) n listed a' w' (fun j => by simp [List.getElem?_drop]) (by rw [hdl]; exact hL.1) hL.2
    rwa [hdl] at this) _ _ _ _ H0
  rw [show ks.length + (n - ks.length) + (l.length - n) = l.toArray.size by simp; omega] at G
  refine wp_region_any hm ?_
  simpa using G
theorem takeHQ {C : World → Prop} {Q : Exit → Act → World → Prop} {l : List Oper} {n f : Nat} {listed : Array Bool} {i d : Nat} {oi : Oper} {a : Act} {w : World} (v : Value) (hi : l.toArray[i]? = some oi ∧ oi.dst = some d) (hB : takeB l n listed i = true) (hw : Region.wanted oi (yielded l.toArray a.tmps) = true) (hC : C w) (hrun : ∀ w, C w → (execOp a.eval oi).run P w = .ok (.value v) w)
    (h : anyH P .any l.toArray C n (tailC P Q l n) f (listed.setIfInBounds i true) (a.put (some d) v) w) : anyH P .any l.toArray C n (tailC P Q l n) (f + 1) listed a w := by
  obtain ⟨h1, h2⟩ := hi
  simp only [takeB, Bool.and_eq_true, decide_eq_true_eq] at hB
  obtain ⟨⟨⟨⟨⟨⟨⟨hsel, hn⟩, hin⟩, hs⟩, hc⟩, hr⟩, hf⟩, hv⟩ := hB
  have hr' : i ∈ Region.ready .any l.toArray listed := by simpa using hr
  refine anyH_first h1 hsel hs hc (by simpa using hn) hin (fun listed a w hL => seqB_ready hL.1) f listed a w hC (inv_of hv) (fun k hk => by rw [getD_replicate_false] at hk; cases hk) (Region.free_spec h1 hf) hr' (.inl ⟨hw, hrun⟩) ?_
  rw [h2]; exact h
end
end Go.Proofs.Ythgnhjkkfhfgmab
