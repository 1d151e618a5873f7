/-
  The model's answer whether two vessels meet.
-/
import Derived.Test.YtejlcokhdgebiabGreatMt
import Derived.Test.YtejlcokhdgebiabGreatMq
namespace Go.Proofs.YtejlcokhdgebiabGreat
open Go.RowKit

open Go.Sort in
theorem bookS_q (S : Nat → Prop) (a : DStuffBook) (c : Nat → Value) (wr : World) (h : Lay.At S wr a c) (hS : ∀ b, S b → b < wr.heap.size) (r : Bool) (hr : bookB a = r) (v0 v1 v2 v3 : Value) (e0 : c 0 = v0) (e1 : c 1 = v1) (e2 : c 2 = v2) (e3 : c 3 = v3) (d : Nat) (os : Array Obj) : Calls Tryz.prog 14 #[.agg #[v0, v1, v2, v3]] (grow (redrawn wr d) os) fun e w'' => e = .returned (.bool r) ∧ ∃ p : Regrown, w'' = grow (redrawn wr p.d) p.os :=
  Calls.regrown_of (by subst hr e0 e1 e2 e3; exact bookS_any S a c _ (Lay.same h (Same.of_below (below_regrown wr d os) hS)) (fun b hb => Nat.lt_of_lt_of_le (hS b hb) (below_regrown wr d os).size))
open Go.Sort in
theorem clashesS_q (S : Nat → Prop) (v0 v1 v2 v3 : Value) (foes : List DStuffFoe) (lots : List DStuffLot) (l y : List ByteArray) (v vy : Value) (wr : World) (h0 : AtL S wr foes v0) (h1 : AtL S wr lots v1) (h : AtL S wr l v) (h3 : AtL S wr y vy) (hS : ∀ b, S b → b < wr.heap.size) (r : Bool) (hr : clashesB foes lots l y = r) (d : Nat) (os : Array Obj) : Calls Tryz.prog 15 #[.agg #[v0, v1, v2, v3], v, vy] (grow (redrawn wr d) os) fun e w'' => e = .returned (.bool r) ∧ ∃ p : Regrown, w'' = grow (redrawn wr p.d) p.os :=
  have sm : Same S wr (grow (redrawn wr d) os) := Same.of_below (below_regrown wr d os) hS
  Calls.regrown_of (by subst hr; exact clashesS_any S v0 v1 v2 v3 foes lots l y v vy _ (h0.same sm) (h1.same sm) (h.same sm) (h3.same sm) (fun b hb => Nat.lt_of_lt_of_le (hS b hb) (below_regrown wr d os).size))

theorem idx_nat {α : Type} {l : List α} {p : α → Bool} (h : 0 ≤ idxI l p) : ∃ i : Nat, i < l.length ∧ idxI l p = i := by
  unfold idxI at h ⊢
  cases e : l.findIdx? p with
  | none => rw [e] at h; simp at h
  | some i => exact ⟨i, (List.findIdx?_eq_some_iff_getElem.1 e).1, rfl⟩
/-- What may be in the vessel at a place. -/
def mayOf (a : DStuffBook) (i : Int) : List ByteArray := match a.2.2.1[i.toNat]? with | some v => v.2.2.2 | none => []
theorem may_at (a : DStuffBook) (i : Nat) (h : i < a.2.2.1.length) : mayOf a i = a.2.2.1[i].2.2.2 := by
  unfold mayOf
  rw [Int.toNat_natCast, List.getElem?_eq_getElem h]
/-- Where a vessel stands; do two vessels meet? -/
def vesI (a : DStuffBook) (x : ByteArray) : Int := idxI a.2.2.1 (fun p : DStuffVessel => eqB p.1 x)
noncomputable def meetsB (a : DStuffBook) (x y : ByteArray) : Bool := bookB a && decide (0 ≤ vesI a x) && decide (0 ≤ vesI a y) && clashesB a.1 a.2.1 (mayOf a (vesI a x)) (mayOf a (vesI a y))

set_option maxRecDepth 100000 in
set_option maxHeartbeats 16000000 in
theorem meetsS_any (S : Nat → Prop) (a : DStuffBook) (c : Nat → Value) (x y : ByteArray) (w : World) (h : Lay.At S w a c) (hS : ∀ b, S b → b < w.heap.size) :
    Calls Tryz.prog 5 #[.agg #[c 0, c 1, c 2, c 3], .string x, .string y] w fun e w' => e = .returned (.bool (meetsB a x y)) ∧ Below w.heap.size w w' := by
  have HA : Hid (Lay.At S w a c) := h
  rw [at_DStuffBook] at h
  obtain ⟨h0, h1, h2, h3⟩ := h
  obtain ⟨v0, u0⟩ : ∃ v, c 0 = v := ⟨_, rfl⟩
  obtain ⟨v1, u1⟩ : ∃ v, c 1 = v := ⟨_, rfl⟩
  obtain ⟨v3, u3⟩ : ∃ v, c 3 = v := ⟨_, rfl⟩
  obtain ⟨ov, cv, u2, hnv, hcv⟩ := id h2
  rw [u0] at h0
  rw [u1] at h1
  rw [u2] at h2
  rw [u0, u1, u2, u3]
  clear h3
  obtain ⟨nv, env⟩ : ∃ n, a.2.2.1.length = n := ⟨_, rfl⟩
  rw [env] at hnv h2 u2
  rw [env]
  unfold maxLen at hnv
  have U0 : Hid (c 0 = v0) := u0
  have U1 : Hid (c 1 = v1) := u1
  have U2 : Hid (c 2 = _) := u2
  have U3 : Hid (c 3 = v3) := u3
  clear u0 u1 u2 u3
  have H0 : Hid (AtL S w a.1 v0) := h0
  have H1 : Hid (AtL S w a.2.1 v1) := h1
  have H2 : Hid (AtL S w a.2.2.1 (.slice ov nv cv)) := h2
  have HV : Hid _ := hcv
  clear h0 h1 h2 hcv
  have b0 : Hid (Below (w.heap.size + 1) (w.alloc (.cells #[v0, v1, .slice ov nv cv, v3] 35)) (w.alloc (.cells #[v0, v1, .slice ov nv cv, v3] 35))) := Below.refl _ _
  go_enter Tryz.func5, Tryz.ntmps5
  go_wp2_with fail
  refine (vesselS_any S _ _ _ _ a.2.2.1 x _ (H2.out.same (Same.of_below (below_end b0.out) hS)) (fun b hb => by have := hS b hb; simp; omega)).mono ?_
  rintro e w1 ⟨rfl, hb1⟩
  have b1 : Hid (Below (w.heap.size + 1) (w.alloc (.cells #[v0, v1, .slice ov nv cv, v3] 35)) w1) := below_of b0.out hb1
  clear hb1
  have y0 := box_at _ _ b1.out 0 v0 rfl
  have y1 := box_at _ _ b1.out 1 v1 rfl
  have y2 := box_at _ _ b1.out 2 (.slice ov nv cv) rfl
  have y3 := box_at _ _ b1.out 3 v3 rfl
  have s1 := (below_end b1.out).size
  go_wp2_with fail
  refine (vesselS_any S _ _ _ _ a.2.2.1 y _ (H2.out.same (Same.of_below (below_end b1.out) hS)) (fun b hb => by have := hS b hb; omega)).mono ?_
  rintro e wr ⟨rfl, hb2⟩
  have hbel : Hid (Below (w.heap.size + 1) (w.alloc (.cells #[v0, v1, .slice ov nv cv, v3] 35)) wr) := below_of b1.out hb2
  clear hb2 b0 b1 y0 y1 y2 y3 s1
  have hbw := below_end hbel.out
  have hsz : w.heap.size + 1 ≤ wr.heap.size := by have := hbel.out.size; simpa using this
  have hSr : ∀ b, S b → b < wr.heap.size := fun b hb => by have := hS b hb; omega
  have sm : Same S w wr := Same.of_below hbw hS
  have KA : Hid (Lay.At S wr a c) := Lay.same HA.out sm
  have K0 : Hid (AtL S wr a.1 v0) := H0.out.same sm
  have K1 : Hid (AtL S wr a.2.1 v1) := H1.out.same sm
  have x0 := box_at _ _ hbel.out 0 (v0) rfl
  have x1 := box_at _ _ hbel.out 1 (v1) rfl
  have x2 := box_at _ _ hbel.out 2 (.slice ov nv cv) rfl
  have x3 := box_at _ _ hbel.out 3 (v3) rfl
  have qx0 := fun d os => cell_regrown x0 d os
  have qx1 := fun d os => cell_regrown x1 d os
  have qx2 := fun d os => cell_regrown x2 d os
  have qx3 := fun d os => cell_regrown x3 d os
  have hm : meetsB a x y = (bookB a && decide (0 ≤ vesI a x) && decide (0 ≤ vesI a y) && clashesB a.1 a.2.1 (mayOf a (vesI a x)) (mayOf a (vesI a y))) := rfl
  obtain ⟨ix, ex⟩ : ∃ i, vesI a x = i := ⟨_, rfl⟩
  obtain ⟨iy, ey⟩ : ∃ i, vesI a y = i := ⟨_, rfl⟩
  have ex' : idxI a.2.2.1 (fun p : DStuffVessel => eqB p.1 x) = ix := ex
  have ey' : idxI a.2.2.1 (fun p : DStuffVessel => eqB p.1 y) = iy := ey
  rw [ex', ey']
  rw [ex, ey] at hm
  have EX : Hid _ := ex'
  have EY : Hid _ := ey'
  clear ex ey ex' ey'
  have HMM : Hid _ := hm
  clear hm
  cases cb : bookB a
  · have hv : meetsB a x y = false := by rw [HMM.out]; simp [cb]
    go_wp2
    refine wp_region_quiet_below (by kernel_rfl) (by kernel_rfl) ?_
    repeat (first | go_big_quiet_step (with_reducible exact bookS_q S a c _ KA.out hSr _ cb _ _ _ _ U0.out U1.out U2.out U3.out _ _) | quiet_step (with_reducible exact bookS_q S a c _ KA.out hSr _ cb _ _ _ _ U0.out U1.out U2.out U3.out _ _))
    refine wpQuiet_nil ?_
    intro _ hw'
    obtain ⟨⟨dq, osq⟩, hw''⟩ := hw'
    subst hw''
    go_wp2
    rw [hv]
    go_ret
    exact ⟨rfl, below_end (below_of hbel.out (below_regrown _ dq osq))⟩
  · cases ci : decide (0 ≤ ix)
    · have hv : meetsB a x y = false := by rw [HMM.out]; simp [cb, ci]
      go_wp2
      refine wp_region_quiet_below (by kernel_rfl) (by kernel_rfl) ?_
      repeat (first | go_big_quiet_step (with_reducible exact bookS_q S a c _ KA.out hSr _ cb _ _ _ _ U0.out U1.out U2.out U3.out _ _) | quiet_step (with_reducible exact bookS_q S a c _ KA.out hSr _ cb _ _ _ _ U0.out U1.out U2.out U3.out _ _))
      refine wpQuiet_nil ?_
      intro _ hw'
      obtain ⟨⟨dq, osq⟩, hw''⟩ := hw'
      subst hw''
      go_wp2
      rw [hv]
      go_ret
      exact ⟨rfl, below_end (below_of hbel.out (below_regrown _ dq osq))⟩
    · cases ck : decide (0 ≤ iy)
      · have hv : meetsB a x y = false := by rw [HMM.out]; simp [cb, ci, ck]
        go_wp2
        refine wp_region_quiet_below (by kernel_rfl) (by kernel_rfl) ?_
        repeat (first | go_big_quiet_step (with_reducible exact bookS_q S a c _ KA.out hSr _ cb _ _ _ _ U0.out U1.out U2.out U3.out _ _) | quiet_step (with_reducible exact bookS_q S a c _ KA.out hSr _ cb _ _ _ _ U0.out U1.out U2.out U3.out _ _))
        refine wpQuiet_nil ?_
        intro _ hw'
        obtain ⟨⟨dq, osq⟩, hw''⟩ := hw'
        subst hw''
        go_wp2
        rw [hv]
        go_ret
        exact ⟨rfl, below_end (below_of hbel.out (below_regrown _ dq osq))⟩
      · have gi := of_decide_eq_true ci
        have gk := of_decide_eq_true ck
        obtain ⟨i, hi, ei⟩ := idx_nat (l := a.2.2.1) (p := fun p : DStuffVessel => eqB p.1 x) (by rw [EX.out]; exact gi)
        obtain ⟨k, hk, ek⟩ := idx_nat (l := a.2.2.1) (p := fun p : DStuffVessel => eqB p.1 y) (by rw [EY.out]; exact gk)
        rw [EX.out] at ei
        rw [EY.out] at ek
        subst ei ek
        clear gi gk
        obtain ⟨b, off, rfl, hbS, cc, hcell, hat⟩ := HV.out i hi
        obtain ⟨b', off', e', _, dd, hcell', hat'⟩ := HV.out k hk
        cases e'
        have hb := hS b hbS
        rw [width_DStuffVessel] at hcell hcell'
        have hat := Lay.same hat sm
        have hat' := Lay.same hat' sm
        rw [at_DStuffVessel] at hat hat'
        have p3 : wr.cell? ⟨b, off + i * 4 + 3, none⟩ = some (cc 3) := (hbw.cell (p := ⟨b, off + i * 4 + 3, none⟩) (by show b < _; omega)).trans (by simpa using hcell 3 (by omega))
        have r3 : wr.cell? ⟨b, off + k * 4 + 3, none⟩ = some (dd 3) := (hbw.cell (p := ⟨b, off + k * 4 + 3, none⟩) (by show b < _; omega)).trans (by simpa using hcell' 3 (by omega))
        clear hcell hcell'
        obtain ⟨fi, efi⟩ : ∃ f, (a.2.2.1[i]'hi).2.2.2 = f := ⟨_, rfl⟩
        obtain ⟨fk, efk⟩ : ∃ f, (a.2.2.1[k]'hk).2.2.2 = f := ⟨_, rfl⟩
        obtain ⟨_, _, _, li⟩ := hat
        obtain ⟨_, _, _, lk⟩ := hat'
        rw [efi] at li
        rw [efk] at lk
        have LI : Hid (AtL S wr fi (cc 3)) := li
        have LK : Hid (AtL S wr fk (dd 3)) := lk
        clear li lk
        have EFI : Hid (mayOf a (i : Int) = fi) := (may_at a i hi).trans efi
        have EFK : Hid (mayOf a (k : Int) = fk) := (may_at a k hk).trans efk
        rw [env] at hi hk
        have qp := fun d os => cell_regrown p3 d os
        have qr := fun d os => cell_regrown r3 d os
        cases cf : clashesB a.1 a.2.1 fi fk
        · have hv : meetsB a x y = false := by rw [HMM.out, EFI.out, EFK.out, cb, ci, ck, cf]; rfl
          go_wp2
          refine wp_region_quiet_below (by kernel_rfl) (by kernel_rfl) ?_
          repeat (first | go_big_quiet_step (first | (with_reducible exact bookS_q S a c _ KA.out hSr _ cb _ _ _ _ U0.out U1.out U2.out U3.out _ _) | (with_reducible exact clashesS_q S _ _ _ _ a.1 a.2.1 fi fk _ _ _ K0.out K1.out LI.out LK.out hSr _ cf _ _)) | quiet_step (first | (with_reducible exact bookS_q S a c _ KA.out hSr _ cb _ _ _ _ U0.out U1.out U2.out U3.out _ _) | (with_reducible exact clashesS_q S _ _ _ _ a.1 a.2.1 fi fk _ _ _ K0.out K1.out LI.out LK.out hSr _ cf _ _)))
          refine wpQuiet_nil ?_
          intro _ hw'
          obtain ⟨⟨dq, osq⟩, hw''⟩ := hw'
          subst hw''
          go_wp2
          rw [hv]
          go_ret
          exact ⟨rfl, below_end (below_of hbel.out (below_regrown _ dq osq))⟩
        · have hv : meetsB a x y = true := by rw [HMM.out, EFI.out, EFK.out, cb, ci, ck, cf]; rfl
          go_wp2
          refine wp_region_quiet_below (by kernel_rfl) (by kernel_rfl) ?_
          repeat (first | go_big_quiet_step (first | (with_reducible exact bookS_q S a c _ KA.out hSr _ cb _ _ _ _ U0.out U1.out U2.out U3.out _ _) | (with_reducible exact clashesS_q S _ _ _ _ a.1 a.2.1 fi fk _ _ _ K0.out K1.out LI.out LK.out hSr _ cf _ _)) | quiet_step (first | (with_reducible exact bookS_q S a c _ KA.out hSr _ cb _ _ _ _ U0.out U1.out U2.out U3.out _ _) | (with_reducible exact clashesS_q S _ _ _ _ a.1 a.2.1 fi fk _ _ _ K0.out K1.out LI.out LK.out hSr _ cf _ _)))
          refine wpQuiet_nil ?_
          intro _ hw'
          obtain ⟨⟨dq, osq⟩, hw''⟩ := hw'
          subst hw''
          go_wp2
          rw [hv]
          go_ret
          exact ⟨rfl, below_end (below_of hbel.out (below_regrown _ dq osq))⟩

end Go.Proofs.YtejlcokhdgebiabGreat
