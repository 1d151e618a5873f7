/-
  Several texts in one.
-/
import Derived.Test.YtkongeofapbblabM49
import Derived.Test.YtkongeofapbblabM22
import Derived.Test.YtkongeofapbblabHj
import Derived.Test.YtkongeofapbblabHi
import Derived.Test.YtkongeofapbblabM12
/-
  The program's runs of a recipe: where a run stands, how it begins.
-/
namespace Go.Proofs.Ytkongeofapbblab
open Go.RowKit

theorem name_le8 {x : ByteArray} (h : nameB x = true) : x.size ≤ 8 := by
  simp only [nameB, Bool.and_eq_true, decide_eq_true_eq] at h
  exact h.1.2
theorem ph_goes {p : DRecPhase} (h : phaseB p = true) : p.2.2.2.2.2.2.1.size ≤ 8 ∧ p.2.2.2.2.2.2.2.size ≤ 8 := by
  simp only [phaseB, Bool.and_eq_true] at h
  exact ⟨name_le8 h.1.2, name_le8 h.2⟩

set_option maxRecDepth 100000 in
set_option maxHeartbeats 4000000 in
theorem stateI_any (S : Nat → Prop) (r : List DRecPhase) (hR : recB r = true) (v : Value) (x : ByteArray) (now : Int) (w : World) (h : AtL S w r v) (hS : ∀ b, S b → b < w.heap.size) (ht : totL r ≤ 1048576) (hx : x.size ≤ 1048576) :
    Calls Try.prog 17 #[v, .string x, .int .i64 now] w fun e w' => e = .returned (.agg #[.string x, .int .i64 now, .int .i64 (bndF 12 r x)]) ∧ Below w.heap.size w w' := by
  have H : Hid (∀ w', Below w.heap.size w w' → AtL S w' r v ∧ ∀ b, S b → b < w'.heap.size) := fun w' hb => ⟨h.same (Same.of_below hb hS), fun b hb' => Nat.lt_of_lt_of_le (hS b hb') hb.size⟩
  have b0 : Hid (Below w.heap.size w (w.alloc (.cells #[.string ⟨#[]⟩, .int .i64 0, .int .i64 0] 25))) := (Below.refl _ _).alloc (Nat.le_refl _) _
  obtain ⟨R, hRR⟩ : ∃ R, R = bndF 12 r x := ⟨_, rfl⟩
  have CB : Hid (∀ u, Below w.heap.size w u → Calls Try.prog 32 #[v, .string x] u fun e w' => e = .returned (.int .i64 R) ∧ Below u.heap.size u w') := fun u hu => by
    have := boundI_any S r v x u (H.out u hu).1 (H.out u hu).2 ht
    rw [if_pos hR, ← hRR] at this
    exact this
  rw [← hRR]
  clear hRR h H
  go_enter Try.func17, Try.ntmps17
  go_wp2_with fail
  refine (clones_any x _ hx).mono ?_; rintro e w1 ⟨rfl, hb1⟩
  have B1 : Hid (Below w.heap.size w w1) := b0.out.trans (hb1.mono b0.out.size)
  have R1 : Hid (w1.heap[w.heap.size]? = some (.cells #[.string ⟨#[]⟩, .int .i64 0, .int .i64 0] 25 (0, 0))) := (hb1.block _ (by simp)).trans (heap_alloc_new w _)
  have z1 : w.heap.size + 1 ≤ w1.heap.size := by have := hb1.size; simpa using this
  clear hb1
  go_wp2_with fail
  refine (CB.out w1 B1.out).mono ?_; rintro e w2 ⟨rfl, hb2⟩
  have row : w2.heap[w.heap.size]? = some (.cells #[.string ⟨#[]⟩, .int .i64 0, .int .i64 0] 25 (0, 0)) := (hb2.block _ (by omega)).trans R1.out
  have B2 : Below w.heap.size w w2 := B1.out.trans (hb2.mono B1.out.size)
  clear hb2
  obtain ⟨p0, g0⟩ := cell_row row 0 _ rfl
  obtain ⟨p1, g1⟩ := cell_row row 1 _ rfl
  obtain ⟨p2, g2⟩ := cell_row row 2 _ rfl
  have fin := set_row (set_row (set_row row 0 (.string x)) 1 (.int .i64 now)) 2 (.int .i64 R)
  have f0 := (cell_row fin 0 (.string x) rfl).1
  have f1 := (cell_row fin 1 (.int .i64 now) rfl).1
  have f2 := (cell_row fin 2 (.int .i64 R) rfl).1
  have bF := (((B2.setCell (p := ⟨w.heap.size, 0, none⟩) (by show w.heap.size ≤ w.heap.size; omega) (.string x)).setCell (p := ⟨w.heap.size, 1, none⟩) (by show w.heap.size ≤ w.heap.size; omega) (.int .i64 now)).setCell (p := ⟨w.heap.size, 2, none⟩) (by show w.heap.size ≤ w.heap.size; omega) (.int .i64 R))
  clear row fin
  go_wp2_with fail
  exact bodyPost_ret (v := .agg #[.string x, .int .i64 now, .int .i64 R]) (by simp [results, Try.results17, go_sem, f0, f1, f2]) rfl ⟨rfl, bF⟩

end Go.Proofs.Ytkongeofapbblab

/-
  A law for a call beside a box that is made meanwhile, in a region that draws its order: what the call makes and the box are two. No program is named here.
-/
namespace Go.Proofs.Ytkongeofapbblab
open Go.RowKit Go.Sort

section
variable {P : Program}
theorem callAlloc {C : World → Prop} {Q : Exit → Act → World → Prop} {l : List Oper} {n : Nat} {listed : Array Bool} {ic ia dc da : Nat} {oc oa : Oper} {a : Act} {w : World} {fn : FuncId} {args : Array Value} (z : Array Value) (t : TypeId) (Post : Value → World → World → Prop)
    (hc : l.toArray[ic]? = some oc ∧ oc.guard = none ∧ oc.dst = some dc ∧ ic < n) (ha : l.toArray[ia]? = some oa ∧ oa.guard = none ∧ oa.dst = some da ∧ ia < n)
    (ne : dc ≠ da ∧ ic ≠ ia)
    (r0 : Region.ready .any l.toArray listed = [ic, ia]) (r1 : Region.ready .any l.toArray (listed.setIfInBounds ia true) = [ic]) (r2 : Region.ready .any l.toArray (listed.setIfInBounds ic true) = [ia])
    (hCB : ∀ u, Below w.heap.size w u → C u) (run : ∀ u, (execOp a.eval oc).run P u = .ok (.enter fn args) u) (run' : ∀ v u, (execOp (a.put (some da) v).eval oc).run P u = .ok (.enter fn args) u)
    (con : ∀ u, Below w.heap.size w u → Calls P fn args u fun e u' => ∃ v, e = .returned v ∧ Post v u u' ∧ Below u.heap.size u u')
    (exa : ∀ (b : Act) (u : World), (execOp b.eval oa).run P u = .ok (.value (.pointer (some ⟨u.heap.size, 0, none⟩))) (u.alloc (.cells z t)))
    (K : ∀ v pB u1 u2 u, Below w.heap.size w u1 → Post v u1 u2 → Below u1.heap.size u1 u2 → Below u2.heap.size u2 u → (pB < u1.heap.size ∨ u2.heap.size ≤ pB) → u.heap[pB]? = some (.cells z t (0, 0)) → w.heap.size ≤ pB → Below w.heap.size w u → tailC P Q l n ((listed.setIfInBounds ic true).setIfInBounds ia true) ((a.put (some dc) v).put (some da) (.pointer (some ⟨pB, 0, none⟩))) u) :
    anyH P .any l.toArray C n (tailC P Q l n) 2 listed a w := by
  obtain ⟨hc1, hc2, hc3, hc4⟩ := hc
  obtain ⟨ha1, ha2, ha3, ha4⟩ := ha
  obtain ⟨n1, m1⟩ := ne
  have st : ∀ u : World, w.heap.size ≤ u.heap.size → Below w.heap.size w u → Below w.heap.size w (u.alloc (.cells z t)) := fun u hs hu => hu.alloc hs _
  refine twoH ic ia r0 ⟨hc4, ha4⟩ ?_ ?_
  · refine stepH_call hc1 (wanted_none hc2 _) (run w) ((con w (Below.refl _ _)).mono fun e u ⟨p, he, hp, hu⟩ => ⟨_, he, hCB u hu, ?_⟩)
    rw [hc3]
    refine oneH _ _ ⟨ha1, ha4⟩ r2 (wanted_none ha2 _) (exa _ u) (hCB _ (st u hu.size hu)) ?_
    rw [ha3]
    exact K p _ w u _ (Below.refl _ _) hp hu ((Below.refl _ _).alloc (Nat.le_refl _) _) (.inr (Nat.le_refl _)) (heap_alloc_new u _) hu.size (st u hu.size hu)
  · have hw0 := st w (Nat.le_refl _) (Below.refl _ _)
    refine stepH_value _ _ ha1 (wanted_none ha2 _) (exa _ w) ⟨hCB _ hw0, ?_⟩
    rw [ha3]
    refine callH ⟨hc1, hc4⟩ r1 (wanted_none hc2 _) (run' _ _) ((con _ hw0).mono fun e u ⟨p, he, hp, hu⟩ => ?_)
    have hbu : Below w.heap.size w u := hw0.trans (hu.mono (by simp))
    refine ⟨_, he, hCB u hbu, ?_⟩
    rw [hc3]
    have hk := K p w.heap.size _ u u hw0 hp hu (Below.refl _ _) (.inl (by simp)) ((hu.block _ (by simp)).trans (heap_alloc_new w _)) (Nat.le_refl _) hbu
    rw [Array.setIfInBounds_comm _ _ (Ne.symm m1)]
    rw [Act.put_comm (a := a) _ _ (fun d hd => by cases hd; simpa using n1)]
    exact hk
end

end Go.Proofs.Ytkongeofapbblab
