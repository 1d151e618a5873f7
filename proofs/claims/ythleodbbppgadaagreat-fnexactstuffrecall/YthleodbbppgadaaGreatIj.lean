/-
  The program's tests of the four lists of a book, and of what is held.
-/
import Derived.Test.YthleodbbppgadaaGreatIi
namespace Go.Proofs.YthleodbbppgadaaGreat
open Go.RowKit


set_option maxRecDepth 100000 in
set_option maxHeartbeats 4000000 in
theorem foesI_any (S : Nat → Prop) (v0 v1 v2 v3 : Value) (l : List DStuffFoe) (w : World) (h : AtL S w l v0) (hS : ∀ b, S b → b < w.heap.size) :
    Calls Tryz.prog 54 #[.agg #[v0, v1, v2, v3]] w fun e w' => e = .returned (.bool (okB 12 (tst (fun f : DStuffFoe => nameB f.1 && nameB f.2 && ltB f.1 f.2) (fun p f : DStuffFoe => befB p f)) l)) ∧ Below w.heap.size w w' := by
  have hbel0 : Hid (Below (w.heap.size + 1) (w.alloc (.cells #[v0, v1, v2, v3] 36)) (w.alloc (.cells #[v0, v1, v2, v3] 36))) := Below.refl _ _
  have hS0 : ∀ b, S b → b < (w.alloc (.cells #[v0, v1, v2, v3] 36)).heap.size := fun b hb => by have := hS b hb; simp; omega
  have hbw0 := below_end hbel0.out
  have KY : Hid (AtL S (w.alloc (.cells #[v0, v1, v2, v3] 36)) l v0) := h.same (Same.of_below hbw0 hS)
  clear h
  go_enter Tryz.func54, Tryz.ntmps54
  go_wp2_with fail
  refine (listStuffFoe_any S v0 l 12 _ KY.out hS0).mono ?_
  rintro e w1 ⟨rfl, hb1⟩
  have hbel1 : Hid (Below (w.heap.size + 1) (w.alloc (.cells #[v0, v1, v2, v3] 36)) w1) := by simpa [Hid] using hb1
  go_wp2_with fail
  go_ret
  exact ⟨rfl, below_end hbel1.out⟩

set_option maxRecDepth 100000 in
set_option maxHeartbeats 4000000 in
theorem lotsI_any (S : Nat → Prop) (v0 v1 v2 v3 : Value) (l : List DStuffLot) (w : World) (h : AtL S w l v1) (hS : ∀ b, S b → b < w.heap.size) :
    Calls Tryz.prog 55 #[.agg #[v0, v1, v2, v3]] w fun e w' => e = .returned (.bool (okB 16 (tst (fun f : DStuffLot => nameB f.1 && nameB f.2) (fun p f : DStuffLot => ltB p.1 f.1)) l)) ∧ Below w.heap.size w w' := by
  have hbel0 : Hid (Below (w.heap.size + 1) (w.alloc (.cells #[v0, v1, v2, v3] 36)) (w.alloc (.cells #[v0, v1, v2, v3] 36))) := Below.refl _ _
  have hS0 : ∀ b, S b → b < (w.alloc (.cells #[v0, v1, v2, v3] 36)).heap.size := fun b hb => by have := hS b hb; simp; omega
  have hbw0 := below_end hbel0.out
  have KY : Hid (AtL S (w.alloc (.cells #[v0, v1, v2, v3] 36)) l v1) := h.same (Same.of_below hbw0 hS)
  clear h
  go_enter Tryz.func55, Tryz.ntmps55
  go_wp2_with fail
  refine (listStuffLot_any S v1 l 16 _ KY.out hS0).mono ?_
  rintro e w1 ⟨rfl, hb1⟩
  have hbel1 : Hid (Below (w.heap.size + 1) (w.alloc (.cells #[v0, v1, v2, v3] 36)) w1) := by simpa [Hid] using hb1
  go_wp2_with fail
  go_ret
  exact ⟨rfl, below_end hbel1.out⟩

set_option maxRecDepth 100000 in
set_option maxHeartbeats 4000000 in
theorem vesselsI_any (S : Nat → Prop) (v0 v1 v2 v3 : Value) (l : List DStuffVessel) (w : World) (h : AtL S w l v2) (hS : ∀ b, S b → b < w.heap.size) :
    Calls Tryz.prog 56 #[.agg #[v0, v1, v2, v3]] w fun e w' => e = .returned (.bool (okB 8 (tst (fun f : DStuffVessel => nameB f.1 && inB f.2.1 1 1000) (fun p f : DStuffVessel => ltB p.1 f.1)) l)) ∧ Below w.heap.size w w' := by
  have hbel0 : Hid (Below (w.heap.size + 1) (w.alloc (.cells #[v0, v1, v2, v3] 36)) (w.alloc (.cells #[v0, v1, v2, v3] 36))) := Below.refl _ _
  have hS0 : ∀ b, S b → b < (w.alloc (.cells #[v0, v1, v2, v3] 36)).heap.size := fun b hb => by have := hS b hb; simp; omega
  have hbw0 := below_end hbel0.out
  have KY : Hid (AtL S (w.alloc (.cells #[v0, v1, v2, v3] 36)) l v2) := h.same (Same.of_below hbw0 hS)
  clear h
  go_enter Tryz.func56, Tryz.ntmps56
  go_wp2_with fail
  refine (listStuffVessel_any S v2 l 8 _ KY.out hS0).mono ?_
  rintro e w1 ⟨rfl, hb1⟩
  have hbel1 : Hid (Below (w.heap.size + 1) (w.alloc (.cells #[v0, v1, v2, v3] 36)) w1) := by simpa [Hid] using hb1
  go_wp2_with fail
  go_ret
  exact ⟨rfl, below_end hbel1.out⟩

set_option maxRecDepth 100000 in
set_option maxHeartbeats 4000000 in
theorem outsI_any (S : Nat → Prop) (v0 v1 v2 v3 : Value) (l : List DStuffOut) (ves : List DStuffVessel) (lots : List DStuffLot) (w : World) (h : AtL S w l v3) (h1 : AtL S w lots v1) (h2 : AtL S w ves v2) (hS : ∀ b, S b → b < w.heap.size) :
    Calls Tryz.prog 57 #[.agg #[v0, v1, v2, v3]] w fun e w' => e = .returned (.bool (okB 12 (tst (fun f : DStuffOut => nameB f.1 && !decide (0 ≤ idxI ves (fun p : DStuffVessel => eqB p.1 f.1))) (fun p f : DStuffOut => ltB p.1 f.1)) l)) ∧ Below w.heap.size w w' := by
  have hmf : ∀ (fn : Fn) (first cap : Array Value) (w : World), (Instr.makeFunc fn first cap).run Tryz.prog w = .ok (.func fn first cap) w := fun _ _ _ _ => rfl
  have hbel0 : Hid (Below (w.heap.size + 1) (w.alloc (.cells #[v0, v1, v2, v3] 36)) (w.alloc (.cells #[v0, v1, v2, v3] 36))) := Below.refl _ _
  have hS0 : ∀ b, S b → b < (w.alloc (.cells #[v0, v1, v2, v3] 36)).heap.size := fun b hb => by have := hS b hb; simp; omega
  have hbw0 := below_end hbel0.out
  have KY : Hid (AtL S (w.alloc (.cells #[v0, v1, v2, v3] 36)) l v3) := h.same (Same.of_below hbw0 hS)
  have KB : Hid (CapBook S (w.alloc (.cells #[v0, v1, v2, v3] 36)) w.heap.size v0 v1 v2 v3 lots ves) := ⟨by simp, new_cell w _ _ 0 _ rfl, new_cell w _ _ 1 _ rfl, new_cell w _ _ 2 _ rfl, new_cell w _ _ 3 _ rfl, h1.same (Same.of_below hbw0 hS), h2.same (Same.of_below hbw0 hS), hS0⟩
  clear h1 h2
  clear h
  go_enter Tryz.func57, Tryz.ntmps57
  go_wp2_with fail
  refine (listStuffOut_any S w.heap.size v0 v1 v2 v3 lots ves v3 l 12 _ KY.out hS0 KB.out).mono ?_
  rintro e w1 ⟨rfl, hb1⟩
  have hbel1 : Hid (Below (w.heap.size + 1) (w.alloc (.cells #[v0, v1, v2, v3] 36)) w1) := by simpa [Hid] using hb1
  go_wp2_with fail
  go_ret
  exact ⟨rfl, below_end hbel1.out⟩

/-- What a vessel, an out holds and may hold is as the program asks. -/
noncomputable def vesH (foes : List DStuffFoe) (lots : List DStuffLot) (f : DStuffVessel) : Bool := mayB foes lots f.2.2.2 && partsB f.2.2.1 f.2.2.2 f.2.1
noncomputable def outH (foes : List DStuffFoe) (lots : List DStuffLot) (f : DStuffOut) : Bool := mayB foes lots f.2.2 && partsB f.2.1 f.2.2 1000
noncomputable def holdI (a : DStuffBook) : Bool := a.2.2.1.all (vesH a.1 a.2.1) && a.2.2.2.all (outH a.1 a.2.1)
theorem may_len {foes : List DStuffFoe} {lots : List DStuffLot} {may : List ByteArray} (h : mayB foes lots may = true) : may.length ≤ lots.length := by
  unfold mayB at h
  rw [Bool.and_eq_true] at h
  exact (ok_iff.1 h.1).1

set_option maxRecDepth 100000 in
set_option maxHeartbeats 4000000 in
theorem holdI_any (S : Nat → Prop) (a : DStuffBook) (v0 v1 v2 v3 : Value) (w : World) (h0 : AtL S w a.1 v0) (h1 : AtL S w a.2.1 v1) (h2 : AtL S w a.2.2.1 v2) (h3 : AtL S w a.2.2.2 v3) (hS : ∀ b, S b → b < w.heap.size) (hf : a.1.length ≤ 1048576) (hl : a.2.1.length ≤ 1048576) :
    Calls Tryz.prog 58 #[.agg #[v0, v1, v2, v3]] w fun e w' => e = .returned (.bool (holdI a)) ∧ Below w.heap.size w w' := by
  have H1 : Hid (AtL S w a.2.1 v1) := h1
  have H2 : Hid (AtL S w a.2.2.1 v2) := h2
  obtain ⟨o1, cap1, hv1, hn1, _⟩ := h1
  obtain ⟨ov, cv, hv2, hnv, hcv⟩ := h2
  obtain ⟨oo, co, hv3, hno, hco⟩ := h3
  rw [hv1] at H1
  rw [hv2] at H2
  subst hv1 hv2 hv3
  obtain ⟨n1, en1⟩ : ∃ n, a.2.1.length = n := ⟨_, rfl⟩
  obtain ⟨nv, env⟩ : ∃ n, a.2.2.1.length = n := ⟨_, rfl⟩
  obtain ⟨no, eno⟩ : ∃ n, a.2.2.2.length = n := ⟨_, rfl⟩
  rw [en1] at hn1 H1
  rw [env] at hnv H2
  rw [eno] at hno
  rw [en1, env, eno]
  unfold maxLen at hn1 hnv hno
  have HV : Hid _ := hcv
  have HO : Hid _ := hco
  have H0 : Hid (AtL S w a.1 v0) := h0
  clear hcv hco h0
  have hbel0 : Hid (Below (w.heap.size + 1) (w.alloc (.cells #[v0, .slice o1 n1 cap1, .slice ov nv cv, .slice oo no co] 36)) (w.alloc (.cells #[v0, .slice o1 n1 cap1, .slice ov nv cv, .slice oo no co] 36))) := Below.refl _ _
  have hS0 : ∀ b, S b → b < (w.alloc (.cells #[v0, .slice o1 n1 cap1, .slice ov nv cv, .slice oo no co] 36)).heap.size := fun b hb => by have := hS b hb; simp; omega
  have hbw0 := below_end hbel0.out
  have K0 : Hid (AtL S (w.alloc (.cells #[v0, .slice o1 n1 cap1, .slice ov nv cv, .slice oo no co] 36)) a.1 v0) := H0.out.same (Same.of_below hbw0 hS)
  go_enter Tryz.func58, Tryz.ntmps58
  go_wp2_with fail
  refine (bothWays_any S _ _ _ _ a.1 _ K0.out hS0 hf).mono ?_
  rintro e wm ⟨mb, rfl, hmm, hbm⟩
  have hbelm : Hid (Below (w.heap.size + 1) (w.alloc (.cells #[v0, .slice o1 n1 cap1, .slice ov nv cv, .slice oo no co] 36)) wm) := by simpa [Hid] using hbm
  have hmb : mb < wm.heap.size := hmm.lt
  have MM : Hid (Mp wm mb (cntF (nthF a.1) a.1.length)) := hmm
  clear hmm hbm K0 hbw0 hS0 hbel0
  have z0 := box_at _ _ hbelm.out 0 (v0) rfl
  have z1 := box_at _ _ hbelm.out 1 (.slice o1 n1 cap1) rfl
  have z2 := box_at _ _ hbelm.out 2 (.slice ov nv cv) rfl
  have z3 := box_at _ _ hbelm.out 3 (.slice oo no co) rfl
  go_wp2_with fail
  clear z0 z1 z2 z3
  go_loopw [13] (fun i wr => ∃ k : Nat, k ≤ nv ∧ i = .int .i64 k ∧ Hid (∀ j (hj : j < a.2.2.1.length), j < k → vesH a.1 a.2.1 a.2.2.1[j] = true) ∧ Hid (Below (w.heap.size + 1) (w.alloc (.cells #[v0, .slice o1 n1 cap1, .slice ov nv cv, .slice oo no co] 36)) wr) ∧ Hid (Below wm.heap.size wm wr)) (fun i _ => nv - (intOf i).toNat)
  case atStart => exact ⟨0, Nat.zero_le _, rfl, fun _ _ h => by omega, hbelm, Below.refl _ _⟩
  case round =>
    obtain ⟨k, hk, rfl, hall, hbel, hbm⟩ := hrel
    have hbw := below_end hbel.out
    have hsz : w.heap.size + 1 ≤ wr.heap.size := by have := hbel.out.size; simpa using this
    have hSr : ∀ b, S b → b < wr.heap.size := fun b hb => by have := hS b hb; omega
    have x0 := box_at _ _ hbel.out 0 _ rfl
    have x1 := box_at _ _ hbel.out 1 _ rfl
    have x2 := box_at _ _ hbel.out 2 _ rfl
    have x3 := box_at _ _ hbel.out 3 _ rfl
    simp only [List.getElem_toArray, List.getElem_cons_zero, List.getElem_cons_succ] at x0 x1 x2 x3
    have K1 : Hid (AtL S wr a.2.1 _) := H1.out.same (Same.of_below hbw hS)
    have K2 : Hid (AtL S wr a.2.2.1 _) := H2.out.same (Same.of_below hbw hS)
    have MR : Hid (Mp wr mb (cntF (nthF a.1) a.1.length)) := MM.out.below hbm.out hmb
    by_cases hlt : k < nv
    · obtain ⟨b, off, rfl, hbS, ce, hcelle, hate⟩ := HV.out k (by omega)
      have hbb := hS b hbS
      rw [width_DStuffVessel] at hcelle
      have e0 : wr.cell? ⟨b, off + k * 4, none⟩ = some (ce 0) := (hbw.cell (p := ⟨b, off + k * 4, none⟩) (by show b < _; omega)).trans (by simpa using hcelle 0 (by omega))
      have e1 : wr.cell? ⟨b, off + k * 4 + 1, none⟩ = some (ce 1) := (hbw.cell (p := ⟨b, off + k * 4 + 1, none⟩) (by show b < _; omega)).trans (by simpa using hcelle 1 (by omega))
      have e2 : wr.cell? ⟨b, off + k * 4 + 2, none⟩ = some (ce 2) := (hbw.cell (p := ⟨b, off + k * 4 + 2, none⟩) (by show b < _; omega)).trans (by simpa using hcelle 2 (by omega))
      have e3 : wr.cell? ⟨b, off + k * 4 + 3, none⟩ = some (ce 3) := (hbw.cell (p := ⟨b, off + k * 4 + 3, none⟩) (by show b < _; omega)).trans (by simpa using hcelle 3 (by omega))
      clear hcelle
      have hate := Lay.same hate (Same.of_below hbw hS)
      rw [at_DStuffVessel] at hate
      obtain ⟨ef, eef⟩ : ∃ f, a.2.2.1[k]'(by omega) = f := ⟨_, rfl⟩
      rw [eef] at hate
      obtain ⟨⟨te0, ze0⟩, ⟨te1, zle1, zhe1⟩, le2, le3⟩ := hate
      obtain ⟨soe2, sce2, te2, _⟩ := id le2
      rw [te2] at le2
      have LE2 : Hid (AtL S wr ef.2.2.1 _) := le2
      clear le2
      obtain ⟨soe3, sce3, te3, _⟩ := id le3
      rw [te3] at le3
      have LE3 : Hid (AtL S wr ef.2.2.2 _) := le3
      clear le3
      rw [te0] at e0
      rw [te1] at e1
      rw [te2] at e2
      rw [te3] at e3
      clear te0 te1 te2 te3
      clear hbw
      have hW : Hid (Below (w.heap.size + 1) _ (wr.alloc (.cells #[.string ef.1, .int .i64 ef.2.1, .slice soe2 ef.2.2.1.length sce2, .slice soe3 ef.2.2.2.length sce3] 53))) := hbel.out.alloc (by omega) _
      have hSa : ∀ b, S b → b < (wr.alloc (.cells #[.string ef.1, .int .i64 ef.2.1, .slice soe2 ef.2.2.1.length sce2, .slice soe3 ef.2.2.2.length sce3] 53)).heap.size := fun b hb => by have := hSr b hb; simp; omega
      have sA : Same S wr (wr.alloc (.cells #[.string ef.1, .int .i64 ef.2.1, .slice soe2 ef.2.2.1.length sce2, .slice soe3 ef.2.2.2.length sce3] 53)) := Same.of_alloc wr _ hSr
      have J1 : Hid (AtL S (wr.alloc (.cells #[.string ef.1, .int .i64 ef.2.1, .slice soe2 ef.2.2.1.length sce2, .slice soe3 ef.2.2.2.length sce3] 53)) a.2.1 _) := K1.out.same sA
      have J2 : Hid (AtL S (wr.alloc (.cells #[.string ef.1, .int .i64 ef.2.1, .slice soe2 ef.2.2.1.length sce2, .slice soe3 ef.2.2.2.length sce3] 53)) a.2.2.1 _) := K2.out.same sA
      have JM : Hid (AtL S (wr.alloc (.cells #[.string ef.1, .int .i64 ef.2.1, .slice soe2 ef.2.2.1.length sce2, .slice soe3 ef.2.2.2.length sce3] 53)) ef.2.2.2 _) := LE3.out.same sA
      have JP : Hid (AtL S (wr.alloc (.cells #[.string ef.1, .int .i64 ef.2.1, .slice soe2 ef.2.2.1.length sce2, .slice soe3 ef.2.2.2.length sce3] 53)) ef.2.2.1 _) := LE2.out.same sA
      have MA : Hid (Mp (wr.alloc (.cells #[.string ef.1, .int .i64 ef.2.1, .slice soe2 ef.2.2.1.length sce2, .slice soe3 ef.2.2.2.length sce3] 53)) mb (cntF (nthF a.1) a.1.length)) := MR.out.of_block (Below.heap_alloc wr _ _ MR.out.lt)
      have qx0 := cell_past x0 (by omega) (.cells #[.string ef.1, .int .i64 ef.2.1, .slice soe2 ef.2.2.1.length sce2, .slice soe3 ef.2.2.2.length sce3] 53)
      have qx1 := cell_past x1 (by omega) (.cells #[.string ef.1, .int .i64 ef.2.1, .slice soe2 ef.2.2.1.length sce2, .slice soe3 ef.2.2.2.length sce3] 53)
      have qx2 := cell_past x2 (by omega) (.cells #[.string ef.1, .int .i64 ef.2.1, .slice soe2 ef.2.2.1.length sce2, .slice soe3 ef.2.2.2.length sce3] 53)
      have qx3 := cell_past x3 (by omega) (.cells #[.string ef.1, .int .i64 ef.2.1, .slice soe2 ef.2.2.1.length sce2, .slice soe3 ef.2.2.2.length sce3] 53)
      cases c0 : mayB a.1 a.2.1 ef.2.2.2
      · have hp : vesH a.1 a.2.1 (a.2.2.1[k]'(by omega)) = false := by rw [eef]; unfold vesH; rw [c0]; rfl
        go_wp2_with fail
        refine (mayI_any S _ _ _ _ a.1 a.2.1 a.2.2.1 ef.2.2.2 _ mb _ J1.out J2.out JM.out hSa hl MA.out).mono ?_
        rintro e w1 ⟨rfl, hb1⟩
        rw [c0]
        have hbel1 : Hid (Below (w.heap.size + 1) _ w1) := hW.out.trans (hb1.mono (by have := hW.out.size; simpa using this))
        go_wp2_with fail
        rw [show holdI a = false by unfold holdI; rw [all_no (k := k) (by omega) hp]; rfl]
        go_ret
        exact ⟨rfl, below_end hbel1.out⟩
      · have hml : ef.2.2.2.length ≤ 1048576 := by have := may_len c0; omega
        cases c1 : partsB ef.2.2.1 ef.2.2.2 ef.2.1
        · have hp : vesH a.1 a.2.1 (a.2.2.1[k]'(by omega)) = false := by rw [eef]; unfold vesH; rw [c0, c1]; rfl
          go_wp2_with fail
          refine (mayI_any S _ _ _ _ a.1 a.2.1 a.2.2.1 ef.2.2.2 _ mb _ J1.out J2.out JM.out hSa hl MA.out).mono ?_
          rintro e w1 ⟨rfl, hb1⟩
          rw [c0]
          have hbel1 : Hid (Below (w.heap.size + 1) _ w1) := hW.out.trans (hb1.mono (by have := hW.out.size; simpa using this))
          have y0 := (hb1.cell (p := ⟨wr.heap.size, 0, none⟩) (by simp)).trans (new_cell wr #[.string ef.1, .int .i64 ef.2.1, .slice soe2 ef.2.2.1.length sce2, .slice soe3 ef.2.2.2.length sce3] 53 0 (.string ef.1) rfl)
          have y1 := (hb1.cell (p := ⟨wr.heap.size, 1, none⟩) (by simp)).trans (new_cell wr #[.string ef.1, .int .i64 ef.2.1, .slice soe2 ef.2.2.1.length sce2, .slice soe3 ef.2.2.2.length sce3] 53 1 (.int .i64 ef.2.1) rfl)
          have y2 := (hb1.cell (p := ⟨wr.heap.size, 2, none⟩) (by simp)).trans (new_cell wr #[.string ef.1, .int .i64 ef.2.1, .slice soe2 ef.2.2.1.length sce2, .slice soe3 ef.2.2.2.length sce3] 53 2 (.slice soe2 ef.2.2.1.length sce2) rfl)
          have y3 := (hb1.cell (p := ⟨wr.heap.size, 3, none⟩) (by simp)).trans (new_cell wr #[.string ef.1, .int .i64 ef.2.1, .slice soe2 ef.2.2.1.length sce2, .slice soe3 ef.2.2.2.length sce3] 53 3 (.slice soe3 ef.2.2.2.length sce3) rfl)
          go_wp2_with fail
          refine (partsI_any S ef.2.2.1 ef.2.2.2 _ _ ef.2.1 _ (JP.out.same (Same.of_below hb1 hSa)) (JM.out.same (Same.of_below hb1 hSa)) (fun b hb => by have := hSa b hb; have := hb1.size; omega) hml).mono ?_
          rintro e w2 ⟨rfl, hb2⟩
          rw [c1]
          have hbel2 : Hid (Below (w.heap.size + 1) _ w2) := hbel1.out.trans (hb2.mono (by have := hbel1.out.size; simpa using this))
          have hbm2 : Hid (Below wm.heap.size wm w2) := ((hbm.out.alloc hbm.out.size _).trans (hb1.mono (by have := hbm.out.size; simp; omega))).trans (hb2.mono (by have := hbm.out.size; have := hb1.size; simp at this; omega))
          go_wp2_with fail
          rw [show holdI a = false by unfold holdI; rw [all_no (k := k) (by omega) hp]; rfl]
          go_ret
          exact ⟨rfl, below_end hbel2.out⟩
        · have hp : vesH a.1 a.2.1 (a.2.2.1[k]'(by omega)) = true := by rw [eef]; unfold vesH; rw [c0, c1]; rfl
          go_wp2_with fail
          refine (mayI_any S _ _ _ _ a.1 a.2.1 a.2.2.1 ef.2.2.2 _ mb _ J1.out J2.out JM.out hSa hl MA.out).mono ?_
          rintro e w1 ⟨rfl, hb1⟩
          rw [c0]
          have hbel1 : Hid (Below (w.heap.size + 1) _ w1) := hW.out.trans (hb1.mono (by have := hW.out.size; simpa using this))
          have y0 := (hb1.cell (p := ⟨wr.heap.size, 0, none⟩) (by simp)).trans (new_cell wr #[.string ef.1, .int .i64 ef.2.1, .slice soe2 ef.2.2.1.length sce2, .slice soe3 ef.2.2.2.length sce3] 53 0 (.string ef.1) rfl)
          have y1 := (hb1.cell (p := ⟨wr.heap.size, 1, none⟩) (by simp)).trans (new_cell wr #[.string ef.1, .int .i64 ef.2.1, .slice soe2 ef.2.2.1.length sce2, .slice soe3 ef.2.2.2.length sce3] 53 1 (.int .i64 ef.2.1) rfl)
          have y2 := (hb1.cell (p := ⟨wr.heap.size, 2, none⟩) (by simp)).trans (new_cell wr #[.string ef.1, .int .i64 ef.2.1, .slice soe2 ef.2.2.1.length sce2, .slice soe3 ef.2.2.2.length sce3] 53 2 (.slice soe2 ef.2.2.1.length sce2) rfl)
          have y3 := (hb1.cell (p := ⟨wr.heap.size, 3, none⟩) (by simp)).trans (new_cell wr #[.string ef.1, .int .i64 ef.2.1, .slice soe2 ef.2.2.1.length sce2, .slice soe3 ef.2.2.2.length sce3] 53 3 (.slice soe3 ef.2.2.2.length sce3) rfl)
          go_wp2_with fail
          refine (partsI_any S ef.2.2.1 ef.2.2.2 _ _ ef.2.1 _ (JP.out.same (Same.of_below hb1 hSa)) (JM.out.same (Same.of_below hb1 hSa)) (fun b hb => by have := hSa b hb; have := hb1.size; omega) hml).mono ?_
          rintro e w2 ⟨rfl, hb2⟩
          rw [c1]
          have hbel2 : Hid (Below (w.heap.size + 1) _ w2) := hbel1.out.trans (hb2.mono (by have := hbel1.out.size; simpa using this))
          have hbm2 : Hid (Below wm.heap.size wm w2) := ((hbm.out.alloc hbm.out.size _).trans (hb1.mono (by have := hbm.out.size; simp; omega))).trans (hb2.mono (by have := hbm.out.size; have := hb1.size; simp at this; omega))
          go_wp2_with fail
          go_roundw
          case rel => exact ⟨k + 1, by omega, by go_num, fun j hj hjk => by
            by_cases e : j = k
            · subst e; exact hp
            · exact hall.out j hj (by omega), hbel2, hbm2⟩
          case measure => simp [intOf]; omega
    · have HALLV : Hid (a.2.2.1.all (vesH a.1 a.2.1) = true) := all_yes (fun j hj => hall.out j hj (by omega))
      clear hall
      go_wp2_with fail
      clear x0 x1 x2 x3 K1 K2 MR hSr hsz hbw
      go_loopw [37] (fun i wr2 => ∃ k : Nat, k ≤ no ∧ i = .int .i64 k ∧ Hid (∀ j (hj : j < a.2.2.2.length), j < k → outH a.1 a.2.1 a.2.2.2[j] = true) ∧ Hid (Below (w.heap.size + 1) (w.alloc (.cells #[v0, .slice o1 n1 cap1, .slice ov nv cv, .slice oo no co] 36)) wr2) ∧ Hid (Below wm.heap.size wm wr2)) (fun i _ => no - (intOf i).toNat)
      case atStart => exact ⟨0, Nat.zero_le _, rfl, fun _ _ h => by omega, hbel, hbm⟩
      case round =>
        clear hbel hbm
        rename_i wr0
        obtain ⟨k, hk, rfl, hall, hbel, hbm⟩ := hrel
        have hbw := below_end hbel.out
        have hsz : w.heap.size + 1 ≤ wr.heap.size := by have := hbel.out.size; simpa using this
        have hSr : ∀ b, S b → b < wr.heap.size := fun b hb => by have := hS b hb; omega
        have x0 := box_at _ _ hbel.out 0 _ rfl
        have x1 := box_at _ _ hbel.out 1 _ rfl
        have x2 := box_at _ _ hbel.out 2 _ rfl
        have x3 := box_at _ _ hbel.out 3 _ rfl
        simp only [List.getElem_toArray, List.getElem_cons_zero, List.getElem_cons_succ] at x0 x1 x2 x3
        have K1 : Hid (AtL S wr a.2.1 _) := H1.out.same (Same.of_below hbw hS)
        have K2 : Hid (AtL S wr a.2.2.1 _) := H2.out.same (Same.of_below hbw hS)
        have MR : Hid (Mp wr mb (cntF (nthF a.1) a.1.length)) := MM.out.below hbm.out hmb
        by_cases hlt : k < no
        · obtain ⟨b, off, rfl, hbS, ce, hcelle, hate⟩ := HO.out k (by omega)
          have hbb := hS b hbS
          rw [width_DStuffOut] at hcelle
          have e0 : wr.cell? ⟨b, off + k * 3, none⟩ = some (ce 0) := (hbw.cell (p := ⟨b, off + k * 3, none⟩) (by show b < _; omega)).trans (by simpa using hcelle 0 (by omega))
          have e1 : wr.cell? ⟨b, off + k * 3 + 1, none⟩ = some (ce 1) := (hbw.cell (p := ⟨b, off + k * 3 + 1, none⟩) (by show b < _; omega)).trans (by simpa using hcelle 1 (by omega))
          have e2 : wr.cell? ⟨b, off + k * 3 + 2, none⟩ = some (ce 2) := (hbw.cell (p := ⟨b, off + k * 3 + 2, none⟩) (by show b < _; omega)).trans (by simpa using hcelle 2 (by omega))
          clear hcelle
          have hate := Lay.same hate (Same.of_below hbw hS)
          rw [at_DStuffOut] at hate
          obtain ⟨ef, eef⟩ : ∃ f, a.2.2.2[k]'(by omega) = f := ⟨_, rfl⟩
          rw [eef] at hate
          obtain ⟨⟨te0, ze0⟩, le1, le2⟩ := hate
          obtain ⟨soe1, sce1, te1, _⟩ := id le1
          rw [te1] at le1
          have LE1 : Hid (AtL S wr ef.2.1 _) := le1
          clear le1
          obtain ⟨soe2, sce2, te2, _⟩ := id le2
          rw [te2] at le2
          have LE2 : Hid (AtL S wr ef.2.2 _) := le2
          clear le2
          rw [te0] at e0
          rw [te1] at e1
          rw [te2] at e2
          clear te0 te1 te2
          clear hbw
          have hW : Hid (Below (w.heap.size + 1) _ (wr.alloc (.cells #[.string ef.1, .slice soe1 ef.2.1.length sce1, .slice soe2 ef.2.2.length sce2] 55))) := hbel.out.alloc (by omega) _
          have hSa : ∀ b, S b → b < (wr.alloc (.cells #[.string ef.1, .slice soe1 ef.2.1.length sce1, .slice soe2 ef.2.2.length sce2] 55)).heap.size := fun b hb => by have := hSr b hb; simp; omega
          have sA : Same S wr (wr.alloc (.cells #[.string ef.1, .slice soe1 ef.2.1.length sce1, .slice soe2 ef.2.2.length sce2] 55)) := Same.of_alloc wr _ hSr
          have J1 : Hid (AtL S (wr.alloc (.cells #[.string ef.1, .slice soe1 ef.2.1.length sce1, .slice soe2 ef.2.2.length sce2] 55)) a.2.1 _) := K1.out.same sA
          have J2 : Hid (AtL S (wr.alloc (.cells #[.string ef.1, .slice soe1 ef.2.1.length sce1, .slice soe2 ef.2.2.length sce2] 55)) a.2.2.1 _) := K2.out.same sA
          have JM : Hid (AtL S (wr.alloc (.cells #[.string ef.1, .slice soe1 ef.2.1.length sce1, .slice soe2 ef.2.2.length sce2] 55)) ef.2.2 _) := LE2.out.same sA
          have JP : Hid (AtL S (wr.alloc (.cells #[.string ef.1, .slice soe1 ef.2.1.length sce1, .slice soe2 ef.2.2.length sce2] 55)) ef.2.1 _) := LE1.out.same sA
          have MA : Hid (Mp (wr.alloc (.cells #[.string ef.1, .slice soe1 ef.2.1.length sce1, .slice soe2 ef.2.2.length sce2] 55)) mb (cntF (nthF a.1) a.1.length)) := MR.out.of_block (Below.heap_alloc wr _ _ MR.out.lt)
          have qx0 := cell_past x0 (by omega) (.cells #[.string ef.1, .slice soe1 ef.2.1.length sce1, .slice soe2 ef.2.2.length sce2] 55)
          have qx1 := cell_past x1 (by omega) (.cells #[.string ef.1, .slice soe1 ef.2.1.length sce1, .slice soe2 ef.2.2.length sce2] 55)
          have qx2 := cell_past x2 (by omega) (.cells #[.string ef.1, .slice soe1 ef.2.1.length sce1, .slice soe2 ef.2.2.length sce2] 55)
          have qx3 := cell_past x3 (by omega) (.cells #[.string ef.1, .slice soe1 ef.2.1.length sce1, .slice soe2 ef.2.2.length sce2] 55)
          cases c0 : mayB a.1 a.2.1 ef.2.2
          · have hp : outH a.1 a.2.1 (a.2.2.2[k]'(by omega)) = false := by rw [eef]; unfold outH; rw [c0]; rfl
            go_wp2_with fail
            refine (mayI_any S _ _ _ _ a.1 a.2.1 a.2.2.1 ef.2.2 _ mb _ J1.out J2.out JM.out hSa hl MA.out).mono ?_
            rintro e w1 ⟨rfl, hb1⟩
            rw [c0]
            have hbel1 : Hid (Below (w.heap.size + 1) _ w1) := hW.out.trans (hb1.mono (by have := hW.out.size; simpa using this))
            go_wp2_with fail
            rw [show holdI a = false by unfold holdI; rw [HALLV.out, all_no (k := k) (by omega) hp]; rfl]
            go_ret
            exact ⟨rfl, below_end hbel1.out⟩
          · have hml : ef.2.2.length ≤ 1048576 := by have := may_len c0; omega
            cases c1 : partsB ef.2.1 ef.2.2 1000
            · have hp : outH a.1 a.2.1 (a.2.2.2[k]'(by omega)) = false := by rw [eef]; unfold outH; rw [c0, c1]; rfl
              go_wp2_with fail
              refine (mayI_any S _ _ _ _ a.1 a.2.1 a.2.2.1 ef.2.2 _ mb _ J1.out J2.out JM.out hSa hl MA.out).mono ?_
              rintro e w1 ⟨rfl, hb1⟩
              rw [c0]
              have hbel1 : Hid (Below (w.heap.size + 1) _ w1) := hW.out.trans (hb1.mono (by have := hW.out.size; simpa using this))
              have y0 := (hb1.cell (p := ⟨wr.heap.size, 0, none⟩) (by simp)).trans (new_cell wr #[.string ef.1, .slice soe1 ef.2.1.length sce1, .slice soe2 ef.2.2.length sce2] 55 0 (.string ef.1) rfl)
              have y1 := (hb1.cell (p := ⟨wr.heap.size, 1, none⟩) (by simp)).trans (new_cell wr #[.string ef.1, .slice soe1 ef.2.1.length sce1, .slice soe2 ef.2.2.length sce2] 55 1 (.slice soe1 ef.2.1.length sce1) rfl)
              have y2 := (hb1.cell (p := ⟨wr.heap.size, 2, none⟩) (by simp)).trans (new_cell wr #[.string ef.1, .slice soe1 ef.2.1.length sce1, .slice soe2 ef.2.2.length sce2] 55 2 (.slice soe2 ef.2.2.length sce2) rfl)
              go_wp2_with fail
              refine (partsI_any S ef.2.1 ef.2.2 _ _ 1000 _ (JP.out.same (Same.of_below hb1 hSa)) (JM.out.same (Same.of_below hb1 hSa)) (fun b hb => by have := hSa b hb; have := hb1.size; omega) hml).mono ?_
              rintro e w2 ⟨rfl, hb2⟩
              rw [c1]
              have hbel2 : Hid (Below (w.heap.size + 1) _ w2) := hbel1.out.trans (hb2.mono (by have := hbel1.out.size; simpa using this))
              have hbm2 : Hid (Below wm.heap.size wm w2) := ((hbm.out.alloc hbm.out.size _).trans (hb1.mono (by have := hbm.out.size; simp; omega))).trans (hb2.mono (by have := hbm.out.size; have := hb1.size; simp at this; omega))
              go_wp2_with fail
              rw [show holdI a = false by unfold holdI; rw [HALLV.out, all_no (k := k) (by omega) hp]; rfl]
              go_ret
              exact ⟨rfl, below_end hbel2.out⟩
            · have hp : outH a.1 a.2.1 (a.2.2.2[k]'(by omega)) = true := by rw [eef]; unfold outH; rw [c0, c1]; rfl
              go_wp2_with fail
              refine (mayI_any S _ _ _ _ a.1 a.2.1 a.2.2.1 ef.2.2 _ mb _ J1.out J2.out JM.out hSa hl MA.out).mono ?_
              rintro e w1 ⟨rfl, hb1⟩
              rw [c0]
              have hbel1 : Hid (Below (w.heap.size + 1) _ w1) := hW.out.trans (hb1.mono (by have := hW.out.size; simpa using this))
              have y0 := (hb1.cell (p := ⟨wr.heap.size, 0, none⟩) (by simp)).trans (new_cell wr #[.string ef.1, .slice soe1 ef.2.1.length sce1, .slice soe2 ef.2.2.length sce2] 55 0 (.string ef.1) rfl)
              have y1 := (hb1.cell (p := ⟨wr.heap.size, 1, none⟩) (by simp)).trans (new_cell wr #[.string ef.1, .slice soe1 ef.2.1.length sce1, .slice soe2 ef.2.2.length sce2] 55 1 (.slice soe1 ef.2.1.length sce1) rfl)
              have y2 := (hb1.cell (p := ⟨wr.heap.size, 2, none⟩) (by simp)).trans (new_cell wr #[.string ef.1, .slice soe1 ef.2.1.length sce1, .slice soe2 ef.2.2.length sce2] 55 2 (.slice soe2 ef.2.2.length sce2) rfl)
              go_wp2_with fail
              refine (partsI_any S ef.2.1 ef.2.2 _ _ 1000 _ (JP.out.same (Same.of_below hb1 hSa)) (JM.out.same (Same.of_below hb1 hSa)) (fun b hb => by have := hSa b hb; have := hb1.size; omega) hml).mono ?_
              rintro e w2 ⟨rfl, hb2⟩
              rw [c1]
              have hbel2 : Hid (Below (w.heap.size + 1) _ w2) := hbel1.out.trans (hb2.mono (by have := hbel1.out.size; simpa using this))
              have hbm2 : Hid (Below wm.heap.size wm w2) := ((hbm.out.alloc hbm.out.size _).trans (hb1.mono (by have := hbm.out.size; simp; omega))).trans (hb2.mono (by have := hbm.out.size; have := hb1.size; simp at this; omega))
              go_wp2_with fail
              go_roundw
              case rel => exact ⟨k + 1, by omega, by go_num, fun j hj hjk => by
                by_cases e : j = k
                · subst e; exact hp
                · exact hall.out j hj (by omega), hbel2, hbm2⟩
              case measure => simp [intOf]; omega
        · go_wp2_with fail
          rw [show holdI a = true by unfold holdI; rw [HALLV.out, all_yes (fun j hj => hall.out j hj (by omega))]; rfl]
          go_ret
          exact ⟨rfl, hbw⟩

end Go.Proofs.YthleodbbppgadaaGreat
