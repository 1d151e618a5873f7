/-
  Several texts in one.
-/
import Derived.Test.YtepemobbjaincaaXbs
import Derived.Test.YtepemobbjaincaaM4
/-
  The program's slots of a recipe: it answers as the model, in memory of its own.
-/
namespace Go.Proofs.Ytepemobbjaincaa
open Go.RowKit

set_option maxRecDepth 100000 in
set_option maxHeartbeats 4000000 in
theorem slotsI_any (S : Nat → Prop) (r : List DRecPhase) (v : Value) (x : ByteArray) (w : World) (h : AtL S w r v) (hS : ∀ b, S b → b < w.heap.size) (ht : totL r ≤ 1048576) (_ : x.size ≤ 1048576) :
    Calls Try.prog 6 #[v, .string x] w fun e w' => ∃ q, e = .returned q ∧ OnL (fun b => w.heap.size ≤ b ∧ b < w'.heap.size) w' (slL r x) q ∧ Below w.heap.size w w' := by
  obtain ⟨oa, cap, ev, _⟩ := id h
  obtain ⟨n, en⟩ : ∃ n, r.length = n := ⟨_, rfl⟩
  rw [en] at ev
  subst ev
  have HL : Hid (r.length = n) := en
  have H : Hid (∀ u, Below w.heap.size w u → AtL S u r (.slice oa n cap)) := fun u hu => h.same (Same.of_below hu hS)
  have HS : Hid (∀ u, Below w.heap.size w u → ∀ b, S b → b < u.heap.size) := fun u hu b hb => Nat.lt_of_lt_of_le (hS b hb) hu.size
  have B0 : Hid (Below w.heap.size w w) := Below.refl _ _
  clear h hS en
  cases hr : recB r
  · have hsl : slL r x = [] := by unfold slL; rw [hr]; rfl
    rw [hsl]
    go_enter Try.func6, Try.ntmps6
    go_wp2_with fail
    refine (okI_any S r _ _ (H.out _ B0.out) (HS.out _ B0.out) ht).mono ?_; rintro e w1 ⟨rfl, hb1⟩
    have B1 : Hid (Below w.heap.size w w1) := hb1
    clear hb1
    rw [hr]
    go_wp2_with fail
    go_ret
    exact ⟨_, rfl, onS (Row.nil w1 w.heap.size 9 1 eS) (fun g hg => by cases hg) (fun y hy => by cases hy), B1.out⟩
  · have HR : Hid (RecP r) := rec_iff.1 hr
    have hsl : slL r x = sltF 12 r x := by unfold slL; rw [hr]; rfl
    rw [hsl]
    go_enter Try.func6, Try.ntmps6
    go_wp2_with fail
    refine (okI_any S r _ _ (H.out _ B0.out) (HS.out _ B0.out) ht).mono ?_; rintro e w1 ⟨rfl, hb1⟩
    have B1 : Hid (Below w.heap.size w w1) := hb1
    clear hb1
    rw [hr]
    go_wp2_with fail
    refine (tabS_any S r oa n cap _ HR.out (H.out _ B1.out) HL.out (HS.out _ B1.out)).mono ?_; rintro e w2 ⟨g, rfl, ⟨hg, hc⟩, hb2⟩
    have B2 : Hid (Below w.heap.size w w2) := B1.out.trans (hb2.mono B1.out.size)
    have HC : Hid _ := hc
    have s1 := B1.out.size
    clear hb2 hc
    have TOLD : ∃ o m k, (∀ j : Nat, atI r x = (j : Int) → w2.cell? ⟨g, j, none⟩ = some (.slice o m k)) ∧ (atI r x = -1 → Value.slice o m k = .slice none 0 0) ∧ Row w2 w1.heap.size 9 1 eS (.slice o m k) (sltF 12 r x) := by
      rcases at_cases r x with e | ⟨k', hk', e, _⟩
      · refine ⟨none, 0, 0, fun j hj => by omega, fun _ => rfl, ?_⟩
        rw [slt_none e 12]; exact Row.nil _ _ _ _ _
      · obtain ⟨v, hv, hrow⟩ := HC.out k' (by have := HL.out; omega)
        rw [phN_at hk', ← slt_at HR.out hk' e 11] at hrow
        obtain ⟨o, k, hf⟩ := Row.form hrow
        subst hf
        refine ⟨o, _, k, fun j hj => ?_, fun h => by omega, hrow⟩
        obtain rfl : j = k' := by omega
        exact hv
    obtain ⟨o, m, k, ta, tb, tr⟩ := TOLD
    have TR : Hid (Row w2 w1.heap.size 9 1 eS (.slice o m k) (sltF 12 r x)) := tr
    have C : Hid _ := ofS_any S r oa n cap x g o m k w2 (H.out _ B2.out) HL.out (HS.out _ B2.out) hg ta tb
    clear ta tb tr
    go_wp2_with fail
    refine Calls.mono C.out ?_
    rintro e w3 ⟨rfl, hb3⟩
    have B3 : Hid (Below w.heap.size w w3) := B2.out.trans (hb3.mono B2.out.size)
    have R3 : Hid (Row w3 w.heap.size 9 1 eS (.slice o m k) (sltF 12 r x)) := (Row.below TR.out hb3).low (by omega)
    clear hb3
    go_wp2_with fail
    go_ret
    exact ⟨_, rfl, onS R3.out (fun q hq => World.ownsRow.lt R3.out q hq) (fun y hy => Nat.le_trans (slt_names HR.out 12 x y hy) (by decide)), B3.out⟩

end Go.Proofs.Ytepemobbjaincaa

/-
  How long the model's recipes may take.
-/
namespace Go.Proofs.Ytepemobbjaincaa
open Go.RowKit

set_option maxRecDepth 100000 in
set_option maxHeartbeats 4000000 in
theorem bndX_any (S : Nat → Prop) (r : List DRecPhase) (hR : RecP r) : ∀ (n : Nat) (v : Value) (x : ByteArray) (w : World), n ≤ 12 → AtL S w r v → (∀ k : Nat, atI r x = (k : Int) → r.length ≤ k + n) → Calls Try.prog 25 #[v, .string x] w fun e w' => e = .returned (.int .i64 (bndF n r x)) ∧ w' = w := by
  intro n
  induction n with
  | zero =>
    intro v x w _ h hd
    have e : atI r x = -1 := by
      rcases at_cases r x with e | ⟨k, hk, e, _⟩
      · exact e
      · have := hd k e; omega
    go_enter Try.func25, Try.ntmps25
    go_wp2_with fail
    refine (atX_any S r v x w h).mono ?_; rintro e' w1 ⟨rfl, rfl⟩; rw [e]
    go_wp2_with fail
    go_ret
    exact ⟨rfl, rfl⟩
  | succ n IH =>
    intro v x w hn12 h hd
    rcases at_cases r x with e | ⟨k, hk, e, _⟩
    · have hr : bndF (n + 1) r x = 0 := by simp [bndF, e]
      rw [hr]
      go_enter Try.func25, Try.ntmps25
      go_wp2_with fail
      refine (atX_any S r v x w h).mono ?_; rintro e' w1 ⟨rfl, rfl⟩; rw [e]
      go_wp2_with fail
      go_ret
      exact ⟨rfl, rfl⟩
    obtain ⟨oa, cap, ev, hx⟩ := id h
    subst ev
    obtain ⟨b, off, rfl, hbS, cc, hcell, hat⟩ := hx.2 k hk
    clear hx
    have hph := ph_at hk e
    rw [width_DRecPhase] at hcell
    rw [at_DRecPhase] at hat
    obtain ⟨nl, en⟩ : ∃ n, r.length = n := ⟨_, rfl⟩
    obtain ⟨f, ef⟩ : ∃ f, r[k] = f := ⟨_, rfl⟩
    have hst := step_of hR hk
    have hin := (ph_name hst.1).2.2.1
    rw [ef] at hph hst hin hat
    obtain ⟨nm, kd, a, b', n', wi, th, el⟩ := f
    obtain ⟨_, _, _, _, _, ⟨q5, _, _⟩, ⟨q6, _⟩, ⟨q7, _⟩⟩ := hat
    have e5 : w.cell? ⟨b, off + k * 8 + 5, none⟩ = some (.int .i64 wi) := (hcell 5 (by omega)).trans (by rw [q5])
    have e6 : w.cell? ⟨b, off + k * 8 + 6, none⟩ = some (.string th) := (hcell 6 (by omega)).trans (by rw [q6])
    have e7 : w.cell? ⟨b, off + k * 8 + 7, none⟩ = some (.string el) := (hcell 7 (by omega)).trans (by rw [q7])
    clear hcell q5 q6 q7
    have HT : Hid (∀ j : Nat, atI r th = (j : Int) → r.length ≤ j + n) := fun j hj => by have := go_next hR hst.2.1 j hj; have := hd k e; omega
    have HE : Hid (∀ j : Nat, atI r el = (j : Int) → r.length ≤ j + n) := fun j hj => by have := go_next hR hst.2.2 j hj; have := hd k e; omega
    simp only at hin
    rw [en] at h
    rw [en]
    have H : Hid (AtL S w r (.slice (some ⟨b, off, none⟩) nl cap)) := h
    have hkn : k < nl := by omega
    have hnl : nl ≤ 12 := by have := hR.1; omega
    have hnx : ¬ (atI r x < 0) := by omega
    have hr : Hid (bndF (n + 1) r x = max (bndF n r th) (bndF n r el) + wi) := by show _ = _; simp only [bndF, if_neg hnx, hph]
    obtain ⟨A, hA⟩ : ∃ A, A = bndF n r th := ⟨_, rfl⟩
    obtain ⟨B, hB⟩ : ∃ B, B = bndF n r el := ⟨_, rfl⟩
    have bA := bnd_le hR n th
    have bB := bnd_le hR n el
    rw [← hA] at bA
    rw [← hB] at bB
    have CT : Hid (Calls Try.prog 25 #[.slice (some ⟨b, off, none⟩) nl cap, .string th] w fun e w' => e = .returned (.int .i64 A) ∧ w' = w) := by rw [hA]; exact IH _ th w (by omega) H.out HT.out
    have CE : Hid (Calls Try.prog 25 #[.slice (some ⟨b, off, none⟩) nl cap, .string el] w fun e w' => e = .returned (.int .i64 B) ∧ w' = w) := by rw [hB]; exact IH _ el w (by omega) H.out HE.out
    have HR2 : Hid (bndF (n + 1) r x = max A B + wi) := by rw [hA, hB]; exact hr.out
    clear hA hB IH hd hst hph hr HT HE h hR en ef
    rw [HR2.out]
    go_enter Try.func25, Try.ntmps25
    go_wp2_with fail
    refine (atX_any S r _ x w H.out).mono ?_; rintro e' w1 ⟨rfl, rfl⟩; rw [e]
    clear e
    go_wp2_with fail
    refine CT.out.mono ?_; rintro e' w2 ⟨rfl, rfl⟩
    go_wp2_with fail
    refine CE.out.mono ?_; rintro e' w3 ⟨rfl, rfl⟩
    by_cases c : A < B
    · have hm : Hid (max A B = B) := by show _ = _; omega
      go_wp2_with fail
      go_ret
      exact ⟨by rw [hm.out]; rfl, rfl⟩
    · have hm : Hid (max A B = A) := by show _ = _; omega
      go_wp2_with fail
      go_ret
      exact ⟨by rw [hm.out]; rfl, rfl⟩

end Go.Proofs.Ytepemobbjaincaa

/-
  How long the model's recipes may take: RecBound.
-/
namespace Go.Proofs.Ytepemobbjaincaa
open Go.RowKit

set_option maxRecDepth 100000 in
set_option maxHeartbeats 4000000 in
theorem boundX_any (S : Nat → Prop) (r : List DRecPhase) (v : Value) (x : ByteArray) (w : World) (h : AtL S w r v) (hS : ∀ b, S b → b < w.heap.size) :
    Calls Try.prog 7 #[v, .string x] w fun e w' => e = .returned (.int .i64 (if recB r = true then bndF 12 r x else 0)) ∧ Below w.heap.size w w' := by
  have H : Hid (∀ w', Below w.heap.size w w' → AtL S w' r v) := fun w' hb => h.same (Same.of_below hb hS)
  cases c : recB r
  · rw [if_neg (by simp)]
    go_enter Try.func7, Try.ntmps7
    go_wp2_with fail
    refine (okX_any S r v w h hS).mono ?_; rintro e w1 ⟨rfl, hb⟩; rw [c]
    go_wp2_with fail
    go_ret
    exact ⟨rfl, hb⟩
  · have hR := rec_iff.1 c
    rw [if_pos rfl]
    go_enter Try.func7, Try.ntmps7
    go_wp2_with fail
    refine (okX_any S r v w h hS).mono ?_; rintro e w1 ⟨rfl, hb⟩; rw [c]
    go_wp2_with fail
    refine (bndX_any S r hR 12 v x w1 (Nat.le_refl _) (H.out _ hb) (fun k _ => by have := hR.1; omega)).mono ?_; rintro e w2 ⟨rfl, rfl⟩
    go_wp2_with fail
    go_ret
    exact ⟨rfl, hb⟩

end Go.Proofs.Ytepemobbjaincaa
