/-
  To which ends the model's recipes may come.
-/
import Derived.Test.YtmccbkmfcldbgabXq
namespace Go.Proofs.Ytmccbkmfcldbgab
open Go.RowKit

set_option maxRecDepth 100000 in
set_option maxHeartbeats 4000000 in
theorem canX_any (S : Nat → Prop) (r : List DRecPhase) (hR : RecP r) (q : Int) : ∀ (n : Nat) (v : Value) (x : ByteArray) (w : World), AtL S w r v → (∀ k : Nat, atI r x = (k : Int) → r.length ≤ k + n) → Calls Try.prog 22 #[v, .string x, .int .i64 q] w fun e w' => e = .returned (.bool (canF n r x q)) ∧ w' = w := by
  intro n
  induction n with
  | zero =>
    intro v x w h hd
    have e : atI r x = -1 := by
      rcases at_cases r x with e | ⟨k, hk, e, _⟩
      · exact e
      · have := hd k e; omega
    go_enter Try.func22, Try.ntmps22
    go_wp2_with fail
    refine (atX_any S r v x w h).mono ?_; rintro e' w1 ⟨rfl, rfl⟩; rw [e]
    go_wp2_with fail
    refine (endX_any x _).mono ?_; rintro e' w2 ⟨rfl, rfl⟩
    go_wp2_with fail
    go_ret
    exact ⟨rfl, rfl⟩
  | succ n IH =>
    intro v x w h hd
    rcases at_cases r x with e | ⟨k, hk, e, _⟩
    · have hr : canF (n + 1) r x q = (endI x == q) := by simp [canF, e]
      rw [hr]
      go_enter Try.func22, Try.ntmps22
      go_wp2_with fail
      refine (atX_any S r v x w h).mono ?_; rintro e' w1 ⟨rfl, rfl⟩; rw [e]
      go_wp2_with fail
      refine (endX_any x _).mono ?_; rintro e' w2 ⟨rfl, rfl⟩
      go_wp2_with fail
      go_ret
      exact ⟨rfl, rfl⟩
    obtain ⟨oa, cap, ev, hx⟩ := id h
    subst ev
    obtain ⟨b, off, rfl, hbS, cc, hcell, hat⟩ := hx.2 k hk
    clear hx
    have hph := ph_at hk e
    rw [width_DRecPhase] at hcell
    rw [at_DRecPhase] at hat
    obtain ⟨nl, en⟩ : ∃ n, r.length = n := ⟨_, rfl⟩
    obtain ⟨f, ef⟩ : ∃ f, r[k] = f := ⟨_, rfl⟩
    have hst := step_of hR hk
    rw [ef] at hph hst hat
    obtain ⟨nm, kd, a, b', n', wi, th, el⟩ := f
    obtain ⟨_, _, _, _, _, _, ⟨q6, _⟩, ⟨q7, _⟩⟩ := hat
    have e6 : w.cell? ⟨b, off + k * 8 + 6, none⟩ = some (.string th) := (hcell 6 (by omega)).trans (by rw [q6])
    have e7 : w.cell? ⟨b, off + k * 8 + 7, none⟩ = some (.string el) := (hcell 7 (by omega)).trans (by rw [q7])
    clear hcell q6 q7
    have HT : Hid (∀ j : Nat, atI r th = (j : Int) → r.length ≤ j + n) := fun j hj => by have := go_next hR hst.2.1 j hj; have := hd k e; omega
    have HE : Hid (∀ j : Nat, atI r el = (j : Int) → r.length ≤ j + n) := fun j hj => by have := go_next hR hst.2.2 j hj; have := hd k e; omega
    rw [en] at h
    rw [en]
    have H : Hid (AtL S w r (.slice (some ⟨b, off, none⟩) nl cap)) := h
    have hkn : k < nl := by omega
    have hnl : nl ≤ 12 := by have := hR.1; omega
    have hnx : ¬ (atI r x < 0) := by omega
    have hr : Hid (canF (n + 1) r x q = (canF n r th q || canF n r el q)) := by show _ = _; simp only [canF, if_neg hnx, hph]
    have CT : Hid (Calls Try.prog 22 #[.slice (some ⟨b, off, none⟩) nl cap, .string th, .int .i64 q] w fun e w' => e = .returned (.bool (canF n r th q)) ∧ w' = w) := IH _ th w H.out HT.out
    have CE : Hid (Calls Try.prog 22 #[.slice (some ⟨b, off, none⟩) nl cap, .string el, .int .i64 q] w fun e w' => e = .returned (.bool (canF n r el q)) ∧ w' = w) := IH _ el w H.out HE.out
    clear IH hd hst hph HT HE h hR en ef
    rw [hr.out]
    clear hr
    cases c1 : canF n r th q
    · go_enter Try.func22, Try.ntmps22
      go_wp2_with fail
      refine (atX_any S r _ x w H.out).mono ?_; rintro e' w1 ⟨rfl, rfl⟩; rw [e]
      clear e
      go_wp2_with fail
      refine CT.out.mono ?_; rintro e' w2 ⟨rfl, rfl⟩; rw [c1]
      go_wp2_with fail
      refine CE.out.mono ?_; rintro e' w3 ⟨rfl, rfl⟩
      go_wp2_with fail
      go_ret
      exact ⟨rfl, rfl⟩
    · go_enter Try.func22, Try.ntmps22
      go_wp2_with fail
      refine (atX_any S r _ x w H.out).mono ?_; rintro e' w1 ⟨rfl, rfl⟩; rw [e]
      clear e
      go_wp2_with fail
      refine CT.out.mono ?_; rintro e' w2 ⟨rfl, rfl⟩; rw [c1]
      go_wp2_with fail
      go_ret
      exact ⟨rfl, rfl⟩

set_option maxRecDepth 100000 in
set_option maxHeartbeats 4000000 in
theorem mayX_any (S : Nat → Prop) (r : List DRecPhase) (v : Value) (x : ByteArray) (q : Int) (w : World) (h : AtL S w r v) (hS : ∀ b, S b → b < w.heap.size) :
    Calls Try.prog 6 #[v, .string x, .int .i64 q] w fun e w' => e = .returned (.bool (recB r && inB q 1 3 && canF 12 r x q)) ∧ Below w.heap.size w w' := by
  have H : Hid (∀ w', Below w.heap.size w w' → AtL S w' r v) := fun w' hb => h.same (Same.of_below hb hS)
  cases c : recB r
  · go_enter Try.func6, Try.ntmps6
    go_wp2_with fail
    refine (okX_any S r v w h hS).mono ?_; rintro e w1 ⟨rfl, hb⟩; rw [c]
    go_wp2_with fail
    go_ret
    exact ⟨rfl, hb⟩
  · have hR := rec_iff.1 c
    cases c2 : inB q 1 3
    · go_enter Try.func6, Try.ntmps6
      go_wp2_with fail
      refine (okX_any S r v w h hS).mono ?_; rintro e w1 ⟨rfl, hb⟩; rw [c]
      go_wp2_with fail
      refine (inX_any q 1 3 _).mono ?_; rintro e w2 ⟨rfl, rfl⟩; rw [c2]
      go_wp2_with fail
      go_ret
      exact ⟨rfl, hb⟩
    · go_enter Try.func6, Try.ntmps6
      go_wp2_with fail
      refine (okX_any S r v w h hS).mono ?_; rintro e w1 ⟨rfl, hb⟩; rw [c]
      go_wp2_with fail
      refine (inX_any q 1 3 _).mono ?_; rintro e w2 ⟨rfl, rfl⟩; rw [c2]
      go_wp2_with fail
      refine (canX_any S r hR q 12 v x _ (H.out _ hb) (fun k _ => by have := hR.1; omega)).mono ?_; rintro e w3 ⟨rfl, rfl⟩
      go_wp2_with fail
      go_ret
      exact ⟨rfl, hb⟩

end Go.Proofs.Ytmccbkmfcldbgab
