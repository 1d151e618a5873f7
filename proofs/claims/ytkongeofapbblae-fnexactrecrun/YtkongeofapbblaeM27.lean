/-
  Several texts in one.
-/
import Derived.Test.YtkongeofapbblaeXuz
import Derived.Test.YtkongeofapbblaeLo
import Derived.Laws.EntriesVeiled
import Derived.Test.YtkongeofapbblaeM9
import Derived.Test.YtkongeofapbblaeM25
/-
  How a run's phases are said in turn: the closure that keeps what is still to be said, and the iterator that is made of it.
-/
namespace Go.Proofs.Ytkongeofapbblae
open Go.RowKit

set_option maxRecDepth 100000 in
set_option maxHeartbeats 1000000 in
theorem sayInTurn_any (vs : Value) (hv : ∃ oa n c, vs = .slice oa n c) (w : World) :
    Calls Try.prog 26 #[vs] w fun e w' => e = .returned (.func (.func 40) #[] #[.pointer (some ⟨w.heap.size + 1, 0, none⟩), .pointer (some ⟨w.heap.size, 0, none⟩)]) ∧ w' = (w.alloc (.cells #[vs] 33)).alloc (.cells #[.int .i64 0] 3) := by
  have hmf : ∀ (fn : Fn) (first cap : Array Value) (w : World), (Instr.makeFunc fn first cap).run Try.prog w = .ok (.func fn first cap) w := fun _ _ _ _ => rfl
  obtain ⟨oa, n, c, rfl⟩ := hv
  go_enter Try.func26, Try.ntmps26
  go_wp2
  go_ret
  exact ⟨by simp, rfl⟩

set_option maxRecDepth 100000 in
set_option maxHeartbeats 1000000 in
theorem runStates_any (v : Value) (hv : ∃ oa n c, v = .slice oa n c) (tb sb : Nat) (w : World) :
    Calls Try.prog 25 #[v, .func (.func 40) #[] #[.pointer (some ⟨tb, 0, none⟩), .pointer (some ⟨sb, 0, none⟩)]] w fun e w' => e = .returned (.func (.func 36) #[] #[.pointer (some ⟨w.heap.size, 0, none⟩), .pointer (some ⟨w.heap.size + 1, 0, none⟩)]) ∧ w' = (w.alloc (.cells #[v] 31)).alloc (.cells #[.func (.func 40) #[] #[.pointer (some ⟨tb, 0, none⟩), .pointer (some ⟨sb, 0, none⟩)]] 60) := by
  have hmf : ∀ (fn : Fn) (first cap : Array Value) (w : World), (Instr.makeFunc fn first cap).run Try.prog w = .ok (.func fn first cap) w := fun _ _ _ _ => rfl
  obtain ⟨oa, n, c, rfl⟩ := hv
  go_enter Try.func25, Try.ntmps25
  go_wp2
  go_ret
  exact ⟨by simp, rfl⟩

theorem But.of_below_of {T : Nat → Prop} {w V C : World} (h : But T w V) (k : Below w.heap.size V C) : But T w C :=
  ⟨k.os.trans h.os, k.tape.trans h.tape, k.output.trans h.output, Nat.le_trans h.size k.size, fun b hb hn => (k.block b hb).trans (h.block b hb hn)⟩

set_option maxRecDepth 100000 in
set_option maxHeartbeats 4000000 in
theorem sayI_any (S : Nat → Prop) (L : List DRecSay) (vs : Value) (tb sb j : Nat) (w : World) (hL : AtL S w L vs) (hS : ∀ b, S b → b < w.heap.size) (hTS : ¬ S tb) (hne : tb ≠ sb) (hl : L.length ≤ 1048576)
    (ht : w.heap[tb]? = some (.cells #[.int .i64 ((min j L.length : Nat) : Int)] 3 (0, 0))) (hs : w.heap[sb]? = some (.cells #[vs] 33 (0, 0))) :
    Calls Try.prog 40 #[.pointer (some ⟨tb, 0, none⟩), .pointer (some ⟨sb, 0, none⟩)] w fun e w' => e = .returned (.agg #[.int .i64 (sayT L j).1, .bool (sayT L j).2]) ∧ But (fun b => b = tb) w w' ∧ w'.heap[tb]? = some (.cells #[.int .i64 ((min (j + 1) L.length : Nat) : Int)] 3 (0, 0)) := by
  obtain ⟨W, hW⟩ : ∃ W, W = w.alloc (.cells #[.int .i64 0, .bool false] 50) := ⟨_, rfl⟩
  have bW : Hid (Below w.heap.size w W) := by rw [hW]; exact (Below.refl _ _).alloc (Nat.le_refl _) _
  have rZ : Hid (W.heap[w.heap.size]? = some (.cells #[.int .i64 0, .bool false] 50 (0, 0))) := by rw [hW]; exact heap_alloc_new w _
  have lt := (Array.getElem?_eq_some_iff.1 ht).1
  have ls := (Array.getElem?_eq_some_iff.1 hs).1
  have rT := (bW.out.block tb lt).trans ht
  have rS := (bW.out.block sb ls).trans hs
  have sW : w.heap.size + 1 ≤ W.heap.size := by rw [hW]; simp
  have eW : Hid (W = w.alloc (.cells #[.int .i64 0, .bool false] 50)) := hW
  clear hW
  obtain ⟨t0, t0f⟩ := cell_row rT 0 _ rfl
  simp only [List.getElem_toArray, List.getElem_cons_zero] at t0
  obtain ⟨s0, _⟩ := cell_row rS 0 _ rfl
  simp only [List.getElem_toArray, List.getElem_cons_zero] at s0
  obtain ⟨oa, cap, rfl, hlen, hc⟩ := hL
  by_cases hj : j < L.length
  · have e1 : min j L.length = j := by omega
    have e2 : min (j + 1) L.length = j + 1 := by omega
    rw [e1] at rT t0
    rw [e2]
    obtain ⟨bb, off, rfl, hbS, cc, hcell, hat⟩ := hc j hj
    have hbl := hS bb hbS
    have hbt : bb ≠ tb := fun e => hTS (e ▸ hbS)
    have hsy : sayT L j = L[j] := by unfold sayT; rw [List.getElem?_eq_getElem hj]; rfl
    rw [hsy]
    obtain ⟨f, ef⟩ : ∃ f, L[j] = f := ⟨_, rfl⟩
    rw [ef] at hat
    rw [ef]
    obtain ⟨a, b⟩ := f
    rw [show Lay.width DRecSay = 2 from rfl] at hcell
    obtain ⟨⟨q0, _⟩, q1⟩ := at_DRecSay.1 hat
    simp only at q0 q1
    have c0 := hcell 0 (by omega)
    have c1 := hcell 1 (by omega)
    rw [q0] at c0
    rw [q1] at c1
    rw [Nat.add_zero] at c0
    obtain ⟨nL, en⟩ : ∃ nL, L.length = nL := ⟨_, rfl⟩
    rw [en] at rS s0 hj hl
    have RT : Hid _ := rT
    have RS : Hid _ := rS
    clear hcell q0 q1 hat ef hsy hc hlen rT rS e1 e2 en
    have g1 : ((j : Int) == (nL : Int)) = false := by simp; omega
    go_enter Try.func40, Try.ntmps40
    go_upto_region 1 with fail
    rw [← eW.out]
    go_upto_region 4 with fail
    have rF := set_row RT.out 0 (.int .i64 ((j : Int) + 1))
    obtain ⟨V, hV⟩ : ∃ V, V = W.setCell ⟨tb, 0, none⟩ (.int .i64 ((j : Int) + 1)) := ⟨_, rfl⟩
    rw [← hV]
    rw [← hV] at rF
    have oth : ∀ q, q ≠ tb → V.heap[q]? = W.heap[q]? := fun q hq => by rw [hV]; exact Below.heap_setCell W ⟨tb, 0, none⟩ _ q hq
    have rSV := (oth sb (fun e => hne e.symm)).trans RS.out
    have rZV := (oth w.heap.size (by omega)).trans rZ.out
    have bV : But (fun b => b = tb) w V := by rw [hV]; exact But.set (S := fun k => k = tb) (g := tb) (But.of_below bW.out) rfl 0 _
    have zV : V.heap.size = W.heap.size := by rw [hV]; simp
    have d0 : V.cell? ⟨bb, off + j * 2, none⟩ = some (.int .i64 a) := ((World.cell?_of_block (w := W) (a := ⟨bb, off + j * 2, none⟩) (oth bb hbt)).trans (bW.out.cell hbl)).trans c0
    have d1 : V.cell? ⟨bb, off + j * 2 + 1, none⟩ = some (.bool b) := ((World.cell?_of_block (w := W) (a := ⟨bb, off + j * 2 + 1, none⟩) (oth bb hbt)).trans (bW.out.cell hbl)).trans c1
    clear hV t0 t0f s0 c0 c1
    obtain ⟨t0, _⟩ := cell_row rF 0 (.int .i64 ((j : Int) + 1)) rfl
    obtain ⟨s0, _⟩ := cell_row rSV 0 _ rfl
    simp only [List.getElem_toArray, List.getElem_cons_zero] at s0
    obtain ⟨p0, g0⟩ := cell_row rZV 0 _ rfl
    obtain ⟨p1, g1'⟩ := cell_row rZV 1 _ rfl
    have fin := set_row (set_row rZV 0 (.int .i64 a)) 1 (.bool b)
    have f0 := (cell_row fin 0 (.int .i64 a) rfl).1
    have f1 := (cell_row fin 1 (.bool b) rfl).1
    have bF := But.of_below_of bV ((Below.refl w.heap.size V).setCell (p := ⟨w.heap.size, 0, none⟩) (Nat.le_refl _) (.int .i64 a) |>.setCell (p := ⟨w.heap.size, 1, none⟩) (Nat.le_refl _) (.bool b))
    have hF : ((V.setCell ⟨w.heap.size, 0, none⟩ (.int .i64 a)).setCell ⟨w.heap.size, 1, none⟩ (.bool b)).heap[tb]? = some (.cells #[.int .i64 (((j + 1 : Nat) : Int))] 3 (0, 0)) := by
      refine (Below.heap_setCell _ ⟨w.heap.size, 1, none⟩ _ tb (by show tb ≠ w.heap.size; omega)).trans ((Below.heap_setCell _ ⟨w.heap.size, 0, none⟩ _ tb (by show tb ≠ w.heap.size; omega)).trans (rF.trans ?_))
      simp
    have ej : ((j : Int) + 1 - 1) = (j : Int) := by omega
    clear fin rF oth bV RT RS
    go_wp2_with fail
    exact bodyPost_ret (v := .agg #[.int .i64 a, .bool b]) (by simp [results, Try.results40, go_sem, f0, f1]) rfl ⟨rfl, bF, hF⟩
  · have e1 : min j L.length = L.length := by omega
    have e2 : min (j + 1) L.length = L.length := by omega
    rw [e1] at rT t0
    rw [e2]
    have hsy : sayT L j = (1001, false) := by unfold sayT; rw [List.getElem?_eq_none (by omega)]; rfl
    rw [hsy]
    obtain ⟨nL, en⟩ : ∃ nL, L.length = nL := ⟨_, rfl⟩
    rw [en] at rS s0 t0 rT hl
    rw [en]
    have RT : Hid _ := rT
    clear hc hlen rT rS e1 e2 en hj hsy
    obtain ⟨p0, g0⟩ := cell_row rZ.out 0 _ rfl
    obtain ⟨p1, g1⟩ := cell_row rZ.out 1 _ rfl
    have fin := set_row (set_row rZ.out 0 (.int .i64 1001)) 1 (.bool false)
    have f0 := (cell_row fin 0 (.int .i64 1001) rfl).1
    have f1 := (cell_row fin 1 (.bool false) rfl).1
    have bF : But (fun b => b = tb) w ((W.setCell ⟨w.heap.size, 0, none⟩ (.int .i64 1001)).setCell ⟨w.heap.size, 1, none⟩ (.bool false)) := But.of_below ((bW.out.setCell (p := ⟨w.heap.size, 0, none⟩) (Nat.le_refl _) _).setCell (p := ⟨w.heap.size, 1, none⟩) (Nat.le_refl _) _)
    have hF : ((W.setCell ⟨w.heap.size, 0, none⟩ (.int .i64 1001)).setCell ⟨w.heap.size, 1, none⟩ (.bool false)).heap[tb]? = some (.cells #[.int .i64 (nL : Int)] 3 (0, 0)) :=
      (Below.heap_setCell _ ⟨w.heap.size, 1, none⟩ _ tb (by show tb ≠ w.heap.size; omega)).trans ((Below.heap_setCell _ ⟨w.heap.size, 0, none⟩ _ tb (by show tb ≠ w.heap.size; omega)).trans RT.out)
    clear fin RT
    go_enter Try.func40, Try.ntmps40
    go_upto_region 1 with fail
    rw [← eW.out]
    go_wp2_with fail
    exact bodyPost_ret (v := .agg #[.int .i64 1001, .bool false]) (by simp [results, Try.results40, go_sem, f0, f1]) rfl ⟨rfl, bF, hF⟩

end Go.Proofs.Ytkongeofapbblae

/-
  The program's runs of a recipe: how a run begins.
-/
namespace Go.Proofs.Ytkongeofapbblae
open Go.RowKit

set_option maxRecDepth 100000 in
set_option maxHeartbeats 4000000 in
theorem begI_any (S : Nat → Prop) (r : List DRecPhase) (v : Value) (w : World) (h : AtL S w r v) (hS : ∀ b, S b → b < w.heap.size) (ht : totL r ≤ 1048576) :
    Calls Try.prog 37 #[v] w fun e w' => e = .returned (.agg #[.string (begS r).1, .int .i64 (begS r).2.1, .int .i64 (begS r).2.2]) ∧ Below w.heap.size w w' := by
  have H : Hid (∀ w', Below w.heap.size w w' → AtL S w' r v ∧ ∀ b, S b → b < w'.heap.size) := fun w' hb => ⟨h.same (Same.of_below hb hS), fun b hb' => Nat.lt_of_lt_of_le (hS b hb') hb.size⟩
  have b0 : Hid (Below w.heap.size w (w.alloc (.cells #[.string ⟨#[]⟩, .int .i64 0, .int .i64 0] 27))) := (Below.refl _ _).alloc (Nat.le_refl _) _
  have OK : Hid (Calls Try.prog 38 #[v] (w.alloc (.cells #[.string ⟨#[]⟩, .int .i64 0, .int .i64 0] 27)) fun e w' => e = .returned (.bool (recB r)) ∧ Below (w.alloc (.cells #[.string ⟨#[]⟩, .int .i64 0, .int .i64 0] 27)).heap.size (w.alloc (.cells #[.string ⟨#[]⟩, .int .i64 0, .int .i64 0] 27)) w') := okI_any S r v _ (H.out _ b0.out).1 (H.out _ b0.out).2 ht
  cases c : recB r
  · have hr : begS r = (⟨#[]⟩, 0, 0) := by simp [begS, c]
    rw [hr]
    rw [c] at OK
    go_enter Try.func37, Try.ntmps37
    go_wp2_with fail
    refine OK.out.mono ?_; rintro e u ⟨rfl, hb⟩
    have bU : Below w.heap.size w u := b0.out.trans (hb.mono b0.out.size)
    have row : u.heap[w.heap.size]? = some (.cells #[.string ⟨#[]⟩, .int .i64 0, .int .i64 0] 27 (0, 0)) := (hb.block _ (by simp)).trans (heap_alloc_new w _)
    obtain ⟨p0, g0⟩ := cell_row row 0 _ rfl
    obtain ⟨p1, g1⟩ := cell_row row 1 _ rfl
    obtain ⟨p2, g2⟩ := cell_row row 2 _ rfl
    have fin := set_row (set_row (set_row row 0 (.string ⟨#[]⟩)) 1 (.int .i64 0)) 2 (.int .i64 0)
    have f0 := (cell_row fin 0 (.string ⟨#[]⟩) rfl).1
    have f1 := (cell_row fin 1 (.int .i64 0) rfl).1
    have f2 := (cell_row fin 2 (.int .i64 0) rfl).1
    have bF := (((bU.setCell (p := ⟨w.heap.size, 0, none⟩) (by show w.heap.size ≤ w.heap.size; omega) (.string ⟨#[]⟩)).setCell (p := ⟨w.heap.size, 1, none⟩) (by show w.heap.size ≤ w.heap.size; omega) (.int .i64 0)).setCell (p := ⟨w.heap.size, 2, none⟩) (by show w.heap.size ≤ w.heap.size; omega) (.int .i64 0))
    clear row fin
    go_wp2_with fail
    exact bodyPost_ret (v := .agg #[.string ⟨#[]⟩, .int .i64 0, .int .i64 0]) (by simp [results, Try.results37, go_sem, f0, f1, f2]) rfl ⟨rfl, bF⟩
  · have hR := rec_iff.1 c
    have hk : 0 < r.length := hR.1.1
    obtain ⟨f, ef⟩ : ∃ f, r[0] = f := ⟨_, rfl⟩
    have hr : begS r = (f.1, 0, bndF 12 r f.1) := by simp [begS, c, List.getElem?_eq_getElem hk, ef]
    rw [hr]
    rw [c] at OK
    have hfs : f.1.size ≤ 1048576 := by have := name_le8 (ph_name (step_of hR hk).1).1; rw [ef] at this; omega
    have ST : Hid (∀ (u : World), Below w.heap.size w u → Calls Try.prog 45 #[v, .string f.1, .int .i64 0] u fun e w' => e = .returned (.agg #[.string f.1, .int .i64 0, .int .i64 (bndF 12 r f.1)]) ∧ Below u.heap.size u w') := fun u hu => stateI_any S r c v f.1 0 u (H.out u hu).1 (H.out u hu).2 ht hfs
    obtain ⟨oa, cap, ev, hx⟩ := id h
    subst ev
    obtain ⟨b, off, rfl, hbS, cc, hcell, hat⟩ := hx.2 0 hk
    clear hx h
    have hb' := hS b hbS
    rw [width_DRecPhase] at hcell
    rw [at_DRecPhase, ef] at hat
    obtain ⟨⟨q0, _⟩, _⟩ := hat
    obtain ⟨nl, en⟩ : ∃ n, r.length = n := ⟨_, rfl⟩
    rw [en] at OK ST hk
    rw [en]
    have hnl : nl ≤ 12 := by have := hR.1; omega
    have E : Hid (∀ u, Below w.heap.size w u → u.cell? ⟨b, off, none⟩ = some (.string f.1)) := fun u hu => ((hu.cell hb').trans (by simpa using hcell 0 (by omega))).trans (by rw [q0])
    clear hcell q0 en ef hR H
    go_enter Try.func37, Try.ntmps37
    go_wp2_with fail
    refine OK.out.mono ?_; rintro e u ⟨rfl, hb⟩
    have bU : Hid (Below w.heap.size w u) := b0.out.trans (hb.mono b0.out.size)
    have rU : Hid (u.heap[w.heap.size]? = some (.cells #[.string ⟨#[]⟩, .int .i64 0, .int .i64 0] 27 (0, 0))) := (hb.block _ (by simp)).trans (heap_alloc_new w _)
    have sU : w.heap.size + 1 ≤ u.heap.size := by have := hb.size; simpa using this
    have x0 := E.out u bU.out
    clear hb
    go_wp2_with fail
    refine (ST.out u bU.out).mono ?_; rintro e u2 ⟨rfl, hb2⟩
    have bU2 : Below w.heap.size w u2 := bU.out.trans (hb2.mono bU.out.size)
    have row : u2.heap[w.heap.size]? = some (.cells #[.string ⟨#[]⟩, .int .i64 0, .int .i64 0] 27 (0, 0)) := (hb2.block _ (by omega)).trans rU.out
    obtain ⟨p0, g0⟩ := cell_row row 0 _ rfl
    obtain ⟨p1, g1⟩ := cell_row row 1 _ rfl
    obtain ⟨p2, g2⟩ := cell_row row 2 _ rfl
    have fin := set_row (set_row (set_row row 0 (.string f.1)) 1 (.int .i64 0)) 2 (.int .i64 (bndF 12 r f.1))
    have f0 := (cell_row fin 0 (.string f.1) rfl).1
    have f1 := (cell_row fin 1 (.int .i64 0) rfl).1
    have f2 := (cell_row fin 2 (.int .i64 (bndF 12 r f.1)) rfl).1
    have bF := (((bU2.setCell (p := ⟨w.heap.size, 0, none⟩) (by show w.heap.size ≤ w.heap.size; omega) (.string f.1)).setCell (p := ⟨w.heap.size, 1, none⟩) (by show w.heap.size ≤ w.heap.size; omega) (.int .i64 0)).setCell (p := ⟨w.heap.size, 2, none⟩) (by show w.heap.size ≤ w.heap.size; omega) (.int .i64 (bndF 12 r f.1)))
    clear row fin
    go_wp2_with fail
    exact bodyPost_ret (v := .agg #[.string f.1, .int .i64 0, .int .i64 (bndF 12 r f.1)]) (by simp [results, Try.results37, go_sem, f0, f1, f2]) rfl ⟨rfl, bF⟩

end Go.Proofs.Ytkongeofapbblae
