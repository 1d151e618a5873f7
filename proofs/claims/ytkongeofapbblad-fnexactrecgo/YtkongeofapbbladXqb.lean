/-
  How long the model's recipes may take.
-/
import Derived.Test.YtkongeofapbbladXq
namespace Go.Proofs.Ytkongeofapbblad
open Go.RowKit

set_option maxRecDepth 100000 in
set_option maxHeartbeats 4000000 in
theorem bndX_any (S : Nat → Prop) (r : List DRecPhase) (hR : RecP r) : ∀ (n : Nat) (v : Value) (x : ByteArray) (w : World), n ≤ 12 → AtL S w r v → (∀ k : Nat, atI r x = (k : Int) → r.length ≤ k + n) → Calls Try.prog 39 #[v, .string x] w fun e w' => e = .returned (.int .i64 (bndF n r x)) ∧ w' = w := by
  intro n
  induction n with
  | zero =>
    intro v x w _ h hd
    have e : atI r x = -1 := by
      rcases at_cases r x with e | ⟨k, hk, e, _⟩
      · exact e
      · have := hd k e; omega
    go_enter Try.func39, Try.ntmps39
    go_wp2_with fail
    refine (atX_any S r v x w h).mono ?_; rintro e' w1 ⟨rfl, rfl⟩; rw [e]
    go_wp2_with fail
    go_ret
    exact ⟨rfl, rfl⟩
  | succ n IH =>
    intro v x w hn12 h hd
    rcases at_cases r x with e | ⟨k, hk, e, _⟩
    · have hr : bndF (n + 1) r x = 0 := by simp [bndF, e]
      rw [hr]
      go_enter Try.func39, Try.ntmps39
      go_wp2_with fail
      refine (atX_any S r v x w h).mono ?_; rintro e' w1 ⟨rfl, rfl⟩; rw [e]
      go_wp2_with fail
      go_ret
      exact ⟨rfl, rfl⟩
    obtain ⟨oa, cap, ev, hx⟩ := id h
    subst ev
    obtain ⟨b, off, rfl, hbS, cc, hcell, hat⟩ := hx.2 k hk
    clear hx
    have hph := ph_at hk e
    rw [width_DRecPhase] at hcell
    rw [at_DRecPhase] at hat
    obtain ⟨nl, en⟩ : ∃ n, r.length = n := ⟨_, rfl⟩
    obtain ⟨f, ef⟩ : ∃ f, r[k] = f := ⟨_, rfl⟩
    have hst := step_of hR hk
    have hin := (ph_name hst.1).2.2.1
    rw [ef] at hph hst hin hat
    obtain ⟨nm, kd, a, b', n', wi, th, el⟩ := f
    obtain ⟨_, _, _, _, _, ⟨q5, _, _⟩, ⟨q6, _⟩, ⟨q7, _⟩⟩ := hat
    have e5 : w.cell? ⟨b, off + k * 8 + 5, none⟩ = some (.int .i64 wi) := (hcell 5 (by omega)).trans (by rw [q5])
    have e6 : w.cell? ⟨b, off + k * 8 + 6, none⟩ = some (.string th) := (hcell 6 (by omega)).trans (by rw [q6])
    have e7 : w.cell? ⟨b, off + k * 8 + 7, none⟩ = some (.string el) := (hcell 7 (by omega)).trans (by rw [q7])
    clear hcell q5 q6 q7
    have HT : Hid (∀ j : Nat, atI r th = (j : Int) → r.length ≤ j + n) := fun j hj => by have := go_next hR hst.2.1 j hj; have := hd k e; omega
    have HE : Hid (∀ j : Nat, atI r el = (j : Int) → r.length ≤ j + n) := fun j hj => by have := go_next hR hst.2.2 j hj; have := hd k e; omega
    simp only at hin
    rw [en] at h
    rw [en]
    have H : Hid (AtL S w r (.slice (some ⟨b, off, none⟩) nl cap)) := h
    have hkn : k < nl := by omega
    have hnl : nl ≤ 12 := by have := hR.1; omega
    have hnx : ¬ (atI r x < 0) := by omega
    have hr : Hid (bndF (n + 1) r x = max (bndF n r th) (bndF n r el) + wi) := by show _ = _; simp only [bndF, if_neg hnx, hph]
    obtain ⟨A, hA⟩ : ∃ A, A = bndF n r th := ⟨_, rfl⟩
    obtain ⟨B, hB⟩ : ∃ B, B = bndF n r el := ⟨_, rfl⟩
    have bA := bnd_le hR n th
    have bB := bnd_le hR n el
    rw [← hA] at bA
    rw [← hB] at bB
    have CT : Hid (Calls Try.prog 39 #[.slice (some ⟨b, off, none⟩) nl cap, .string th] w fun e w' => e = .returned (.int .i64 A) ∧ w' = w) := by rw [hA]; exact IH _ th w (by omega) H.out HT.out
    have CE : Hid (Calls Try.prog 39 #[.slice (some ⟨b, off, none⟩) nl cap, .string el] w fun e w' => e = .returned (.int .i64 B) ∧ w' = w) := by rw [hB]; exact IH _ el w (by omega) H.out HE.out
    have HR2 : Hid (bndF (n + 1) r x = max A B + wi) := by rw [hA, hB]; exact hr.out
    clear hA hB IH hd hst hph hr HT HE h hR en ef
    rw [HR2.out]
    go_enter Try.func39, Try.ntmps39
    go_wp2_with fail
    refine (atX_any S r _ x w H.out).mono ?_; rintro e' w1 ⟨rfl, rfl⟩; rw [e]
    clear e
    go_wp2_with fail
    refine CT.out.mono ?_; rintro e' w2 ⟨rfl, rfl⟩
    go_wp2_with fail
    refine CE.out.mono ?_; rintro e' w3 ⟨rfl, rfl⟩
    by_cases c : A < B
    · have hm : Hid (max A B = B) := by show _ = _; omega
      go_wp2_with fail
      go_ret
      exact ⟨by rw [hm.out]; rfl, rfl⟩
    · have hm : Hid (max A B = A) := by show _ = _; omega
      go_wp2_with fail
      go_ret
      exact ⟨by rw [hm.out]; rfl, rfl⟩

end Go.Proofs.Ytkongeofapbblad
