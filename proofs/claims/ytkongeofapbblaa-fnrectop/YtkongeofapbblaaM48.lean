/-
  Several texts in one.
-/
import Derived.Test.YtkongeofapbblaaM47
import Derived.Test.YtkongeofapbblaaM11
import Derived.Laws.EntriesVeiled
import Derived.Test.YtkongeofapbblaaM17
/-
  How a run's phases are said in turn: the closure that keeps what is still to be said, and the iterator that is made of it.
-/
namespace Go.Proofs.Ytkongeofapbblaa
open Go.RowKit

set_option maxRecDepth 100000 in
set_option maxHeartbeats 1000000 in
theorem sayInTurn_any (vs : Value) (hv : ∃ oa n c, vs = .slice oa n c) (w : World) :
    Calls Try.prog 21 #[vs] w fun e w' => e = .returned (.func (.func 53) #[] #[.pointer (some ⟨w.heap.size + 1, 0, none⟩), .pointer (some ⟨w.heap.size, 0, none⟩)]) ∧ w' = (w.alloc (.cells #[vs] 24)).alloc (.cells #[.int .i64 0] 3) := by
  have hmf : ∀ (fn : Fn) (first cap : Array Value) (w : World), (Instr.makeFunc fn first cap).run Try.prog w = .ok (.func fn first cap) w := fun _ _ _ _ => rfl
  obtain ⟨oa, n, c, rfl⟩ := hv
  go_enter Try.func21, Try.ntmps21
  go_wp2
  go_ret
  exact ⟨by simp, rfl⟩

set_option maxRecDepth 100000 in
set_option maxHeartbeats 1000000 in
theorem runStates_any (v : Value) (hv : ∃ oa n c, v = .slice oa n c) (tb sb : Nat) (w : World) :
    Calls Try.prog 20 #[v, .func (.func 53) #[] #[.pointer (some ⟨tb, 0, none⟩), .pointer (some ⟨sb, 0, none⟩)]] w fun e w' => e = .returned (.func (.func 52) #[] #[.pointer (some ⟨w.heap.size, 0, none⟩), .pointer (some ⟨w.heap.size + 1, 0, none⟩)]) ∧ w' = (w.alloc (.cells #[v] 23)).alloc (.cells #[.func (.func 53) #[] #[.pointer (some ⟨tb, 0, none⟩), .pointer (some ⟨sb, 0, none⟩)]] 54) := by
  have hmf : ∀ (fn : Fn) (first cap : Array Value) (w : World), (Instr.makeFunc fn first cap).run Try.prog w = .ok (.func fn first cap) w := fun _ _ _ _ => rfl
  obtain ⟨oa, n, c, rfl⟩ := hv
  go_enter Try.func20, Try.ntmps20
  go_wp2
  go_ret
  exact ⟨by simp, rfl⟩

theorem But.of_below_of {T : Nat → Prop} {w V C : World} (h : But T w V) (k : Below w.heap.size V C) : But T w C :=
  ⟨k.os.trans h.os, k.tape.trans h.tape, k.output.trans h.output, Nat.le_trans h.size k.size, fun b hb hn => (k.block b hb).trans (h.block b hb hn)⟩

set_option maxRecDepth 100000 in
set_option maxHeartbeats 4000000 in
theorem sayI_any (S : Nat → Prop) (L : List DRecSay) (vs : Value) (tb sb j : Nat) (w : World) (hL : AtL S w L vs) (hS : ∀ b, S b → b < w.heap.size) (hTS : ¬ S tb) (hne : tb ≠ sb) (hl : L.length ≤ 1048576)
    (ht : w.heap[tb]? = some (.cells #[.int .i64 ((min j L.length : Nat) : Int)] 3 (0, 0))) (hs : w.heap[sb]? = some (.cells #[vs] 24 (0, 0))) :
    Calls Try.prog 53 #[.pointer (some ⟨tb, 0, none⟩), .pointer (some ⟨sb, 0, none⟩)] w fun e w' => e = .returned (.agg #[.int .i64 (sayT L j).1, .bool (sayT L j).2]) ∧ But (fun b => b = tb) w w' ∧ w'.heap[tb]? = some (.cells #[.int .i64 ((min (j + 1) L.length : Nat) : Int)] 3 (0, 0)) := by
  obtain ⟨W, hW⟩ : ∃ W, W = w.alloc (.cells #[.int .i64 0, .bool false] 41) := ⟨_, rfl⟩
  have bW : Hid (Below w.heap.size w W) := by rw [hW]; exact (Below.refl _ _).alloc (Nat.le_refl _) _
  have rZ : Hid (W.heap[w.heap.size]? = some (.cells #[.int .i64 0, .bool false] 41 (0, 0))) := by rw [hW]; exact heap_alloc_new w _
  have lt := (Array.getElem?_eq_some_iff.1 ht).1
  have ls := (Array.getElem?_eq_some_iff.1 hs).1
  have rT := (bW.out.block tb lt).trans ht
  have rS := (bW.out.block sb ls).trans hs
  have sW : w.heap.size + 1 ≤ W.heap.size := by rw [hW]; simp
  have eW : Hid (W = w.alloc (.cells #[.int .i64 0, .bool false] 41)) := hW
  clear hW
  obtain ⟨t0, t0f⟩ := cell_row rT 0 _ rfl
  simp only [List.getElem_toArray, List.getElem_cons_zero] at t0
  obtain ⟨s0, _⟩ := cell_row rS 0 _ rfl
  simp only [List.getElem_toArray, List.getElem_cons_zero] at s0
  obtain ⟨oa, cap, rfl, hlen, hc⟩ := hL
  by_cases hj : j < L.length
  · have e1 : min j L.length = j := by omega
    have e2 : min (j + 1) L.length = j + 1 := by omega
    rw [e1] at rT t0
    rw [e2]
    obtain ⟨bb, off, rfl, hbS, cc, hcell, hat⟩ := hc j hj
    have hbl := hS bb hbS
    have hbt : bb ≠ tb := fun e => hTS (e ▸ hbS)
    have hsy : sayT L j = L[j] := by unfold sayT; rw [List.getElem?_eq_getElem hj]; rfl
    rw [hsy]
    obtain ⟨f, ef⟩ : ∃ f, L[j] = f := ⟨_, rfl⟩
    rw [ef] at hat
    rw [ef]
    obtain ⟨a, b⟩ := f
    rw [show Lay.width DRecSay = 2 from rfl] at hcell
    obtain ⟨⟨q0, _⟩, q1⟩ := at_DRecSay.1 hat
    simp only at q0 q1
    have c0 := hcell 0 (by omega)
    have c1 := hcell 1 (by omega)
    rw [q0] at c0
    rw [q1] at c1
    rw [Nat.add_zero] at c0
    obtain ⟨nL, en⟩ : ∃ nL, L.length = nL := ⟨_, rfl⟩
    rw [en] at rS s0 hj hl
    have RT : Hid _ := rT
    have RS : Hid _ := rS
    clear hcell q0 q1 hat ef hsy hc hlen rT rS e1 e2 en
    have g1 : ((j : Int) == (nL : Int)) = false := by simp; omega
    go_enter Try.func53, Try.ntmps53
    go_upto_region 1 with fail
    rw [← eW.out]
    go_upto_region 4 with fail
    have rF := set_row RT.out 0 (.int .i64 ((j : Int) + 1))
    obtain ⟨V, hV⟩ : ∃ V, V = W.setCell ⟨tb, 0, none⟩ (.int .i64 ((j : Int) + 1)) := ⟨_, rfl⟩
    rw [← hV]
    rw [← hV] at rF
    have oth : ∀ q, q ≠ tb → V.heap[q]? = W.heap[q]? := fun q hq => by rw [hV]; exact Below.heap_setCell W ⟨tb, 0, none⟩ _ q hq
    have rSV := (oth sb (fun e => hne e.symm)).trans RS.out
    have rZV := (oth w.heap.size (by omega)).trans rZ.out
    have bV : But (fun b => b = tb) w V := by rw [hV]; exact But.set (S := fun k => k = tb) (g := tb) (But.of_below bW.out) rfl 0 _
    have zV : V.heap.size = W.heap.size := by rw [hV]; simp
    have d0 : V.cell? ⟨bb, off + j * 2, none⟩ = some (.int .i64 a) := ((World.cell?_of_block (w := W) (a := ⟨bb, off + j * 2, none⟩) (oth bb hbt)).trans (bW.out.cell hbl)).trans c0
    have d1 : V.cell? ⟨bb, off + j * 2 + 1, none⟩ = some (.bool b) := ((World.cell?_of_block (w := W) (a := ⟨bb, off + j * 2 + 1, none⟩) (oth bb hbt)).trans (bW.out.cell hbl)).trans c1
    clear hV t0 t0f s0 c0 c1
    obtain ⟨t0, _⟩ := cell_row rF 0 (.int .i64 ((j : Int) + 1)) rfl
    obtain ⟨s0, _⟩ := cell_row rSV 0 _ rfl
    simp only [List.getElem_toArray, List.getElem_cons_zero] at s0
    obtain ⟨p0, g0⟩ := cell_row rZV 0 _ rfl
    obtain ⟨p1, g1'⟩ := cell_row rZV 1 _ rfl
    have fin := set_row (set_row rZV 0 (.int .i64 a)) 1 (.bool b)
    have f0 := (cell_row fin 0 (.int .i64 a) rfl).1
    have f1 := (cell_row fin 1 (.bool b) rfl).1
    have bF := But.of_below_of bV ((Below.refl w.heap.size V).setCell (p := ⟨w.heap.size, 0, none⟩) (Nat.le_refl _) (.int .i64 a) |>.setCell (p := ⟨w.heap.size, 1, none⟩) (Nat.le_refl _) (.bool b))
    have hF : ((V.setCell ⟨w.heap.size, 0, none⟩ (.int .i64 a)).setCell ⟨w.heap.size, 1, none⟩ (.bool b)).heap[tb]? = some (.cells #[.int .i64 (((j + 1 : Nat) : Int))] 3 (0, 0)) := by
      refine (Below.heap_setCell _ ⟨w.heap.size, 1, none⟩ _ tb (by show tb ≠ w.heap.size; omega)).trans ((Below.heap_setCell _ ⟨w.heap.size, 0, none⟩ _ tb (by show tb ≠ w.heap.size; omega)).trans (rF.trans ?_))
      simp
    have ej : ((j : Int) + 1 - 1) = (j : Int) := by omega
    clear fin rF oth bV RT RS
    go_wp2_with fail
    exact bodyPost_ret (v := .agg #[.int .i64 a, .bool b]) (by simp [results, Try.results53, go_sem, f0, f1]) rfl ⟨rfl, bF, hF⟩
  · have e1 : min j L.length = L.length := by omega
    have e2 : min (j + 1) L.length = L.length := by omega
    rw [e1] at rT t0
    rw [e2]
    have hsy : sayT L j = (1001, false) := by unfold sayT; rw [List.getElem?_eq_none (by omega)]; rfl
    rw [hsy]
    obtain ⟨nL, en⟩ : ∃ nL, L.length = nL := ⟨_, rfl⟩
    rw [en] at rS s0 t0 rT hl
    rw [en]
    have RT : Hid _ := rT
    clear hc hlen rT rS e1 e2 en hj hsy
    obtain ⟨p0, g0⟩ := cell_row rZ.out 0 _ rfl
    obtain ⟨p1, g1⟩ := cell_row rZ.out 1 _ rfl
    have fin := set_row (set_row rZ.out 0 (.int .i64 1001)) 1 (.bool false)
    have f0 := (cell_row fin 0 (.int .i64 1001) rfl).1
    have f1 := (cell_row fin 1 (.bool false) rfl).1
    have bF : But (fun b => b = tb) w ((W.setCell ⟨w.heap.size, 0, none⟩ (.int .i64 1001)).setCell ⟨w.heap.size, 1, none⟩ (.bool false)) := But.of_below ((bW.out.setCell (p := ⟨w.heap.size, 0, none⟩) (Nat.le_refl _) _).setCell (p := ⟨w.heap.size, 1, none⟩) (Nat.le_refl _) _)
    have hF : ((W.setCell ⟨w.heap.size, 0, none⟩ (.int .i64 1001)).setCell ⟨w.heap.size, 1, none⟩ (.bool false)).heap[tb]? = some (.cells #[.int .i64 (nL : Int)] 3 (0, 0)) :=
      (Below.heap_setCell _ ⟨w.heap.size, 1, none⟩ _ tb (by show tb ≠ w.heap.size; omega)).trans ((Below.heap_setCell _ ⟨w.heap.size, 0, none⟩ _ tb (by show tb ≠ w.heap.size; omega)).trans RT.out)
    clear fin RT
    go_enter Try.func53, Try.ntmps53
    go_upto_region 1 with fail
    rw [← eW.out]
    go_wp2_with fail
    exact bodyPost_ret (v := .agg #[.int .i64 1001, .bool false]) (by simp [results, Try.results53, go_sem, f0, f1]) rfl ⟨rfl, bF, hF⟩

end Go.Proofs.Ytkongeofapbblaa

/-
  Laws on a region that draws its order, all of it, with no tail that waits for the rest. No program is named here.
-/
namespace Go.Proofs.Ytkongeofapbblaa
open Go.Sort

section
variable {P : Program} {md : Region.Mode} {ops : Array Oper} {C : World → Prop} {L : Array Bool → Act → World → Prop}
theorem ready_lt {listed : Array Bool} {j : Nat} (h : j ∈ Region.ready md ops listed) : j < ops.size := by
  obtain ⟨_, o, ho, _⟩ := mem_ready.1 h
  exact (Array.getElem?_eq_some_iff.1 ho).1
theorem anyA_first {i : Nat} {oi : Oper} {v : Value} (hi : ops[i]? = some oi) (hsel : Region.noSelect ops = true) (hL0 : ∀ listed a w, L listed a w → Region.ready md ops listed = []) :
    ∀ (f : Nat) (listed : Array Bool) (a : Act) (w : World), C w →
      (∀ j oj, ops[j]? = some oj → j ≠ i → listed.getD j true = false → (∀ e ∈ oj.after, Region.binds md e = true → e.on ≠ i) → oi.apart ops oj = true) →
      i ∈ Region.ready md ops listed → (Region.wanted oi (yielded ops a.tmps) = true ∧ ∀ w, C w → (execOp a.eval oi).run P w = .ok (.value v) w) →
      anyH P md ops C ops.size L f (listed.setIfInBounds i true) (a.put oi.dst v) w → anyH P md ops C ops.size L (f + 1) listed a w := by
  intro f
  have self : ∀ (listed : Array Bool) (a : Act) (w : World) (f : Nat), C w → (Region.wanted oi (yielded ops a.tmps) = true ∧ ∀ w, C w → (execOp a.eval oi).run P w = .ok (.value v) w) →
      anyH P md ops C ops.size L f (listed.setIfInBounds i true) (a.put oi.dst v) w → stepH P ops i (fun a' w' => C w' ∧ anyH P md ops C ops.size L f (listed.setIfInBounds i true) a' w') a w := by
    intro listed a w f hw hy H
    exact ⟨oi, hi, .inl ⟨hy.1, v, w, hy.2 w hw, hw, H⟩⟩
  induction f with
  | zero =>
    intro listed a w hw _ hr hy H
    refine ⟨(fun h => by rw [h] at hr; cases hr), fun j hj => ?_⟩
    by_cases hji : j = i
    · subst hji; exact ⟨ready_lt hj, self _ _ _ _ hw hy H⟩
    · have h1 := ready_mono hj hji
      rw [hL0 _ _ _ H] at h1
      cases h1
  | succ f ih =>
    intro listed a w hw hfree hr hy H
    refine ⟨(fun h => by rw [h] at hr; cases hr), fun j hj => ?_⟩
    by_cases hji : j = i
    · subst hji; exact ⟨ready_lt hj, self _ _ _ _ hw hy H⟩
    · obtain ⟨hjn, hstep⟩ := H.2 j (ready_mono hj hji)
      obtain ⟨hjun, oj, hoj, hall⟩ := mem_ready.1 hj
      have hiun := (mem_ready.1 hr).1
      have hnot : ∀ e ∈ oj.after, Region.binds md e = true → e.on ≠ i := fun e he hb heq => by
        have h1 := hall e he hb
        rw [heq, getD_both hiun] at h1
        cases h1
      obtain ⟨h1, h2, h3⟩ := Oper.apart_spec (hfree j oj hoj hji hjun hnot)
      have hex : execOp (a.put oi.dst v).eval oj = execOp a.eval oj := execOp_put (ops := ops) oj (fun cs b => Region.noSelect_spec hsel j oj cs b hoj) a oi.dst v h1
      have hwj : Region.wanted oj (yielded ops (a.put oi.dst v).tmps) = Region.wanted oj (yielded ops a.tmps) := wanted_put oj a oi.dst v h1
      have next : ∀ u w', C w' → anyH P md ops C ops.size L f ((listed.setIfInBounds i true).setIfInBounds j true) ((a.put oi.dst v).put oj.dst u) w' → anyH P md ops C ops.size L (f + 1) (listed.setIfInBounds j true) (a.put oj.dst u) w' := by
        intro u w' hC' hrest
        refine ih (listed.setIfInBounds j true) (a.put oj.dst u) w' hC' ?_ (ready_mono hr (Ne.symm hji)) ?_ ?_
        · intro k ok hk hki hun hno
          refine hfree k ok hk hki ?_ hno
          by_cases hjk : j = k
          · subst hjk; exact hjun
          · rw [getD_set_ne true hjk] at hun; exact hun
        · rw [wanted_put oi a oj.dst u h3, execOp_put (ops := ops) oi (fun cs b => Region.noSelect_spec hsel i oi cs b hi) a oj.dst u h3]
          exact hy
        · rw [Array.setIfInBounds_comm _ _ hji, ← Act.put_comm a v u h2]
          exact hrest
      refine ⟨hjn, ?_⟩
      obtain ⟨oj', hoj', hstep⟩ := hstep
      obtain rfl := Option.some.inj (hoj.symm.trans hoj')
      refine ⟨oj, hoj, ?_⟩
      rw [hwj, hex] at hstep
      rcases hstep with ⟨hgj, u, w', hrun, hC', hrest⟩ | ⟨hgj, fn, args, hrun, hrest⟩ | ⟨hgj, hC', hrest⟩ | ⟨hgj, w', hrun, hC', hrest⟩
      · exact .inl ⟨hgj, u, w', hrun, hC', next u w' hC' hrest⟩
      · exact .inr (.inl ⟨hgj, fn, args, hrun, hrest.mono fun e w'' ⟨u, he, hC', hk⟩ => ⟨u, he, hC', next u w'' hC' hk⟩⟩)
      · exact .inr (.inr (.inl ⟨hgj, hC', next undef w hC' hrest⟩))
      · exact .inr (.inr (.inr ⟨hgj, w', hrun, hC', next undef w' hC' hrest⟩))
end

section
variable {P : Program}
/-- All are done. -/
def allC (Q : Exit → Act → World → Prop) (ops : Array Oper) (listed : Array Bool) (a : Act) (w : World) : Prop := Region.ready .any ops listed = [] ∧ Q .normal a w
theorem wp_region_all {id : Nat} {Q : Exit → Act → World → Prop} {a : Act} {w : World} {l : List Oper} (C : World → Prop) (hm : P.follows .mixedOrders = true)
    (h : anyH P .any l.toArray C l.toArray.size (allC Q l.toArray) l.toArray.size (Array.replicate l.toArray.size false) a w.drew) : (Code.region id l.toArray true).wp P Q a w := by
  refine wp_region_any hm ?_
  have G := any_of_H (P := P) (md := .any) (Q := Q) (g := 0) (fun listed a' w' hL => hL) _ _ _ _ h
  exact G
def takeAB (l : List Oper) (listed : Array Bool) (i : Nat) : Bool :=
  Region.noSelect l.toArray && (Region.ready .any l.toArray listed).contains i && Region.free .any l.toArray listed i
theorem takeA {C : World → Prop} {Q : Exit → Act → World → Prop} {l : List Oper} {f : Nat} {listed : Array Bool} {i d : Nat} {oi : Oper} {a : Act} {w : World} (v : Value) (hi : l.toArray[i]? = some oi ∧ oi.dst = some d) (hB : takeAB l listed i = true) (hw : Region.wanted oi (yielded l.toArray a.tmps) = true) (hC : C w) (hrun : ∀ w, C w → (execOp a.eval oi).run P w = .ok (.value v) w)
    (h : anyH P .any l.toArray C l.toArray.size (allC Q l.toArray) f (listed.setIfInBounds i true) (a.put (some d) v) w) : anyH P .any l.toArray C l.toArray.size (allC Q l.toArray) (f + 1) listed a w := by
  obtain ⟨h1, h2⟩ := hi
  simp only [takeAB, Bool.and_eq_true] at hB
  obtain ⟨⟨hsel, hr⟩, hf⟩ := hB
  refine anyA_first h1 hsel (fun listed a w hL => hL.1) f listed a w hC (Region.free_spec h1 hf) (by simpa using hr) ⟨hw, hrun⟩ ?_
  rw [h2]; exact h
end
end Go.Proofs.Ytkongeofapbblaa
