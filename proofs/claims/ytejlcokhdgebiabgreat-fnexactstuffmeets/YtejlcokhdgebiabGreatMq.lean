/-
  The model's clashes: does one stuff clash with one of some lots, do some lots with others.
-/
import Derived.Test.YtejlcokhdgebiabGreatMp
namespace Go.Proofs.YtejlcokhdgebiabGreat
open Go.RowKit

/-- Does one stuff clash with one of some lots? Do some lots with others? -/
def clashB (foes : List DStuffFoe) (lots : List DStuffLot) (s : ByteArray) (may : List ByteArray) : Bool := may.any fun m => foeB foes s (stuffOf lots m)
def clashesB (foes : List DStuffFoe) (lots : List DStuffLot) (x y : List ByteArray) : Bool := x.any fun m => clashB foes lots (stuffOf lots m) y


set_option maxRecDepth 100000 in
set_option maxHeartbeats 4000000 in
theorem clashS_any (S : Nat → Prop) (v0 v1 v2 v3 : Value) (foes : List DStuffFoe) (lots : List DStuffLot) (s : ByteArray) (l : List ByteArray) (v : Value) (w : World) (h0 : AtL S w foes v0) (h1 : AtL S w lots v1) (h : AtL S w l v) (hS : ∀ b, S b → b < w.heap.size) :
    Calls Tryz.prog 37 #[.agg #[v0, v1, v2, v3], .string s, v] w fun e w' => e = .returned (.bool (clashB foes lots s l)) ∧ Below w.heap.size w w' := by
  obtain ⟨oa, cap, rfl, hn, hc⟩ := h
  obtain ⟨n, en⟩ : ∃ n, l.length = n := ⟨_, rfl⟩
  rw [en] at hn
  rw [en]
  unfold maxLen at hn
  have HC : Hid _ := hc
  clear hc
  have H0 : Hid (AtL S w foes v0) := h0
  have H1 : Hid (AtL S w lots v1) := h1
  clear h0 h1
  go_enter Tryz.func37, Tryz.ntmps37
  go_wp2
  go_loopw [7] (fun i wr => ∃ k : Nat, k ≤ n ∧ i = .int .i64 k ∧ Hid (∀ j (hj : j < l.length), j < k → (fun m : ByteArray => foeB foes s (stuffOf lots m)) l[j] = false) ∧ Hid (Below (w.heap.size + 1) (w.alloc (.cells #[v0, v1, v2, v3] 35)) wr)) (fun i _ => n - (intOf i).toNat)
  case atStart => exact ⟨0, Nat.zero_le _, rfl, fun _ _ h => by omega, Below.refl _ _⟩
  case round =>
    obtain ⟨k, hk, rfl, hno, hbel⟩ := hrel
    have hbw := below_end hbel.out
    have hsz := hbw.size
    have hSr : ∀ b, S b → b < wr.heap.size := fun b hb => Nat.lt_of_lt_of_le (hS b hb) hsz
    have x0 := box_at _ _ hbel.out 0 _ rfl
    have x1 := box_at _ _ hbel.out 1 _ rfl
    have x2 := box_at _ _ hbel.out 2 _ rfl
    have x3 := box_at _ _ hbel.out 3 _ rfl
    simp only [List.getElem_toArray, List.getElem_cons_zero, List.getElem_cons_succ] at x0 x1 x2 x3
    have qx0 := fun d os => cell_regrown x0 d os
    have qx1 := fun d os => cell_regrown x1 d os
    have qx2 := fun d os => cell_regrown x2 d os
    have qx3 := fun d os => cell_regrown x3 d os
    have K0 : Hid (AtL S wr foes v0) := H0.out.same (Same.of_below hbw hS)
    have K1 : Hid (AtL S wr lots v1) := H1.out.same (Same.of_below hbw hS)
    by_cases hlt : k < n
    · obtain ⟨b, off, rfl, hbS, cc, hcell, hat⟩ := HC.out k (by omega)
      have hb := hS b hbS
      rw [width_str] at hcell
      have e0 : wr.cell? ⟨b, off + k, none⟩ = some (cc 0) := (hbw.cell (p := ⟨b, off + k, none⟩) (by show b < _; omega)).trans (by simpa using hcell 0 (by omega))
      clear hcell
      rw [at_str] at hat
      rw [hat.1] at e0
      clear hat
      obtain ⟨f, ef⟩ : ∃ f, l[k]'(by omega) = f := ⟨_, rfl⟩
      rw [ef] at e0
      have qe := fun d os => cell_regrown e0 d os
      cases hf : foeB foes s (stuffOf lots f)
      · have hp : (fun m : ByteArray => foeB foes s (stuffOf lots m)) (l[k]'(by omega)) = false := by rw [ef]; exact hf
        go_wp2
        refine wp_region_quiet_below (by kernel_rfl) (by kernel_rfl) ?_
        repeat (first | go_big_quiet_step (first | (with_reducible exact stuffS_q S _ _ _ _ lots _ _ K1.out hSr _ _) | (with_reducible exact foesS_q S _ _ _ _ foes _ _ _ K0.out hSr _ hf _ _)) | quiet_step (first | (with_reducible exact stuffS_q S _ _ _ _ lots _ _ K1.out hSr _ _) | (with_reducible exact foesS_q S _ _ _ _ foes _ _ _ K0.out hSr _ hf _ _)))
        refine wpQuiet_nil ?_
        intro _ hw'
        obtain ⟨⟨dq, osq⟩, hw''⟩ := hw'
        subst hw''
        go_wp2
        go_roundw
        case rel => exact ⟨k + 1, by omega, by go_num, fun j hj hjk => by
          by_cases e : j = k
          · subst e; exact hp
          · exact hno.out j hj (by omega), below_of hbel.out (below_regrown _ dq osq)⟩
        case measure => simp [intOf]; omega
      · have hp : (fun m : ByteArray => foeB foes s (stuffOf lots m)) (l[k]'(by omega)) = true := by rw [ef]; exact hf
        go_wp2
        refine wp_region_quiet_below (by kernel_rfl) (by kernel_rfl) ?_
        repeat (first | go_big_quiet_step (first | (with_reducible exact stuffS_q S _ _ _ _ lots _ _ K1.out hSr _ _) | (with_reducible exact foesS_q S _ _ _ _ foes _ _ _ K0.out hSr _ hf _ _)) | quiet_step (first | (with_reducible exact stuffS_q S _ _ _ _ lots _ _ K1.out hSr _ _) | (with_reducible exact foesS_q S _ _ _ _ foes _ _ _ K0.out hSr _ hf _ _)))
        refine wpQuiet_nil ?_
        intro _ hw'
        obtain ⟨⟨dq, osq⟩, hw''⟩ := hw'
        subst hw''
        go_wp2
        have hr : clashB foes lots s l = true := any_yes (p := fun m : ByteArray => foeB foes s (stuffOf lots m)) (by omega) hp
        rw [hr]
        go_ret
        exact ⟨rfl, below_end (below_of hbel.out (below_regrown _ dq osq))⟩
    · have hkn : k = n := by omega
      subst hkn
      go_wp2
      go_ret
      have hr : clashB foes lots s l = false := any_no (p := fun m : ByteArray => foeB foes s (stuffOf lots m)) (fun j hj => hno.out j hj (by omega))
      rw [hr]
      exact ⟨rfl, hbw⟩
open Go.Sort in
theorem clashS_q (S : Nat → Prop) (v0 v1 v2 v3 : Value) (foes : List DStuffFoe) (lots : List DStuffLot) (s : ByteArray) (l : List ByteArray) (v : Value) (wr : World) (h0 : AtL S wr foes v0) (h1 : AtL S wr lots v1) (h : AtL S wr l v) (hS : ∀ b, S b → b < wr.heap.size) (r : Bool) (hr : clashB foes lots s l = r) (d : Nat) (os : Array Obj) : Calls Tryz.prog 37 #[.agg #[v0, v1, v2, v3], .string s, v] (grow (redrawn wr d) os) fun e w'' => e = .returned (.bool r) ∧ ∃ p : Regrown, w'' = grow (redrawn wr p.d) p.os :=
  have sm : Same S wr (grow (redrawn wr d) os) := Same.of_below (below_regrown wr d os) hS
  Calls.regrown_of (by subst hr; exact clashS_any S v0 v1 v2 v3 foes lots s l v _ (h0.same sm) (h1.same sm) (h.same sm) (fun b hb => Nat.lt_of_lt_of_le (hS b hb) (below_regrown wr d os).size))

set_option maxRecDepth 100000 in
set_option maxHeartbeats 4000000 in
theorem clashesS_any (S : Nat → Prop) (v0 v1 v2 v3 : Value) (foes : List DStuffFoe) (lots : List DStuffLot) (l y : List ByteArray) (v vy : Value) (w : World) (h0 : AtL S w foes v0) (h1 : AtL S w lots v1) (h : AtL S w l v) (h3 : AtL S w y vy) (hS : ∀ b, S b → b < w.heap.size) :
    Calls Tryz.prog 15 #[.agg #[v0, v1, v2, v3], v, vy] w fun e w' => e = .returned (.bool (clashesB foes lots l y)) ∧ Below w.heap.size w w' := by
  obtain ⟨oa, cap, rfl, hn, hc⟩ := h
  obtain ⟨n, en⟩ : ∃ n, l.length = n := ⟨_, rfl⟩
  rw [en] at hn
  rw [en]
  unfold maxLen at hn
  have HC : Hid _ := hc
  clear hc
  have H0 : Hid (AtL S w foes v0) := h0
  have H1 : Hid (AtL S w lots v1) := h1
  have H3 : Hid (AtL S w y vy) := h3
  clear h0 h1 h3
  go_enter Tryz.func15, Tryz.ntmps15
  go_wp2
  go_loopw [7] (fun i wr => ∃ k : Nat, k ≤ n ∧ i = .int .i64 k ∧ Hid (∀ j (hj : j < l.length), j < k → (fun m : ByteArray => clashB foes lots (stuffOf lots m) y) l[j] = false) ∧ Hid (Below (w.heap.size + 1) (w.alloc (.cells #[v0, v1, v2, v3] 35)) wr)) (fun i _ => n - (intOf i).toNat)
  case atStart => exact ⟨0, Nat.zero_le _, rfl, fun _ _ h => by omega, Below.refl _ _⟩
  case round =>
    obtain ⟨k, hk, rfl, hno, hbel⟩ := hrel
    have hbw := below_end hbel.out
    have hsz := hbw.size
    have hSr : ∀ b, S b → b < wr.heap.size := fun b hb => Nat.lt_of_lt_of_le (hS b hb) hsz
    have x0 := box_at _ _ hbel.out 0 _ rfl
    have x1 := box_at _ _ hbel.out 1 _ rfl
    have x2 := box_at _ _ hbel.out 2 _ rfl
    have x3 := box_at _ _ hbel.out 3 _ rfl
    simp only [List.getElem_toArray, List.getElem_cons_zero, List.getElem_cons_succ] at x0 x1 x2 x3
    have qx0 := fun d os => cell_regrown x0 d os
    have qx1 := fun d os => cell_regrown x1 d os
    have qx2 := fun d os => cell_regrown x2 d os
    have qx3 := fun d os => cell_regrown x3 d os
    have K0 : Hid (AtL S wr foes v0) := H0.out.same (Same.of_below hbw hS)
    have K1 : Hid (AtL S wr lots v1) := H1.out.same (Same.of_below hbw hS)
    have KH3 : Hid (AtL S wr y vy) := H3.out.same (Same.of_below hbw hS)
    by_cases hlt : k < n
    · obtain ⟨b, off, rfl, hbS, cc, hcell, hat⟩ := HC.out k (by omega)
      have hb := hS b hbS
      rw [width_str] at hcell
      have e0 : wr.cell? ⟨b, off + k, none⟩ = some (cc 0) := (hbw.cell (p := ⟨b, off + k, none⟩) (by show b < _; omega)).trans (by simpa using hcell 0 (by omega))
      clear hcell
      rw [at_str] at hat
      rw [hat.1] at e0
      clear hat
      obtain ⟨f, ef⟩ : ∃ f, l[k]'(by omega) = f := ⟨_, rfl⟩
      rw [ef] at e0
      have qe := fun d os => cell_regrown e0 d os
      cases hf : clashB foes lots (stuffOf lots f) y
      · have hp : (fun m : ByteArray => clashB foes lots (stuffOf lots m) y) (l[k]'(by omega)) = false := by rw [ef]; exact hf
        go_wp2
        refine wp_region_quiet_below (by kernel_rfl) (by kernel_rfl) ?_
        repeat (first | go_big_quiet_step (first | (with_reducible exact stuffS_q S _ _ _ _ lots _ _ K1.out hSr _ _) | (with_reducible exact clashS_q S _ _ _ _ foes lots _ _ _ _ K0.out K1.out KH3.out hSr _ hf _ _)) | quiet_step (first | (with_reducible exact stuffS_q S _ _ _ _ lots _ _ K1.out hSr _ _) | (with_reducible exact clashS_q S _ _ _ _ foes lots _ _ _ _ K0.out K1.out KH3.out hSr _ hf _ _)))
        refine wpQuiet_nil ?_
        intro _ hw'
        obtain ⟨⟨dq, osq⟩, hw''⟩ := hw'
        subst hw''
        go_wp2
        go_roundw
        case rel => exact ⟨k + 1, by omega, by go_num, fun j hj hjk => by
          by_cases e : j = k
          · subst e; exact hp
          · exact hno.out j hj (by omega), below_of hbel.out (below_regrown _ dq osq)⟩
        case measure => simp [intOf]; omega
      · have hp : (fun m : ByteArray => clashB foes lots (stuffOf lots m) y) (l[k]'(by omega)) = true := by rw [ef]; exact hf
        go_wp2
        refine wp_region_quiet_below (by kernel_rfl) (by kernel_rfl) ?_
        repeat (first | go_big_quiet_step (first | (with_reducible exact stuffS_q S _ _ _ _ lots _ _ K1.out hSr _ _) | (with_reducible exact clashS_q S _ _ _ _ foes lots _ _ _ _ K0.out K1.out KH3.out hSr _ hf _ _)) | quiet_step (first | (with_reducible exact stuffS_q S _ _ _ _ lots _ _ K1.out hSr _ _) | (with_reducible exact clashS_q S _ _ _ _ foes lots _ _ _ _ K0.out K1.out KH3.out hSr _ hf _ _)))
        refine wpQuiet_nil ?_
        intro _ hw'
        obtain ⟨⟨dq, osq⟩, hw''⟩ := hw'
        subst hw''
        go_wp2
        have hr : clashesB foes lots l y = true := any_yes (p := fun m : ByteArray => clashB foes lots (stuffOf lots m) y) (by omega) hp
        rw [hr]
        go_ret
        exact ⟨rfl, below_end (below_of hbel.out (below_regrown _ dq osq))⟩
    · have hkn : k = n := by omega
      subst hkn
      go_wp2
      go_ret
      have hr : clashesB foes lots l y = false := any_no (p := fun m : ByteArray => clashB foes lots (stuffOf lots m) y) (fun j hj => hno.out j hj (by omega))
      rw [hr]
      exact ⟨rfl, hbw⟩

end Go.Proofs.YtejlcokhdgebiabGreat
