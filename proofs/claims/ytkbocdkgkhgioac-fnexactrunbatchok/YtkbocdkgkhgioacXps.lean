/-
  The program's slots of a recipe: it answers as the model, in memory of its own.
-/
import Derived.Test.YtkbocdkgkhgioacXbs
namespace Go.Proofs.Ytkbocdkgkhgioac
open Go.RowKit

set_option maxRecDepth 100000 in
set_option maxHeartbeats 4000000 in
theorem slotsI_any (S : Nat → Prop) (r : List DRecPhase) (v : Value) (x : ByteArray) (w : World) (h : AtL S w r v) (hS : ∀ b, S b → b < w.heap.size) (ht : totL r ≤ 1048576) (_ : x.size ≤ 1048576) :
    Calls Try.prog 35 #[v, .string x] w fun e w' => ∃ q, e = .returned q ∧ OnL (fun b => w.heap.size ≤ b ∧ b < w'.heap.size) w' (slL r x) q ∧ Below w.heap.size w w' := by
  obtain ⟨oa, cap, ev, _⟩ := id h
  obtain ⟨n, en⟩ : ∃ n, r.length = n := ⟨_, rfl⟩
  rw [en] at ev
  subst ev
  have HL : Hid (r.length = n) := en
  have H : Hid (∀ u, Below w.heap.size w u → AtL S u r (.slice oa n cap)) := fun u hu => h.same (Same.of_below hu hS)
  have HS : Hid (∀ u, Below w.heap.size w u → ∀ b, S b → b < u.heap.size) := fun u hu b hb => Nat.lt_of_lt_of_le (hS b hb) hu.size
  have B0 : Hid (Below w.heap.size w w) := Below.refl _ _
  clear h hS en
  cases hr : recB r
  · have hsl : slL r x = [] := by unfold slL; rw [hr]; rfl
    rw [hsl]
    go_enter Try.func35, Try.ntmps35
    go_wp2_with fail
    refine (okI_any S r _ _ (H.out _ B0.out) (HS.out _ B0.out) ht).mono ?_; rintro e w1 ⟨rfl, hb1⟩
    have B1 : Hid (Below w.heap.size w w1) := hb1
    clear hb1
    rw [hr]
    go_wp2_with fail
    go_ret
    exact ⟨_, rfl, onS (Row.nil w1 w.heap.size 9 1 eS) (fun g hg => by cases hg) (fun y hy => by cases hy), B1.out⟩
  · have HR : Hid (RecP r) := rec_iff.1 hr
    have hsl : slL r x = sltF 12 r x := by unfold slL; rw [hr]; rfl
    rw [hsl]
    go_enter Try.func35, Try.ntmps35
    go_wp2_with fail
    refine (okI_any S r _ _ (H.out _ B0.out) (HS.out _ B0.out) ht).mono ?_; rintro e w1 ⟨rfl, hb1⟩
    have B1 : Hid (Below w.heap.size w w1) := hb1
    clear hb1
    rw [hr]
    go_wp2_with fail
    refine (tabS_any S r oa n cap _ HR.out (H.out _ B1.out) HL.out (HS.out _ B1.out)).mono ?_; rintro e w2 ⟨g, rfl, ⟨hg, hc⟩, hb2⟩
    have B2 : Hid (Below w.heap.size w w2) := B1.out.trans (hb2.mono B1.out.size)
    have HC : Hid _ := hc
    have s1 := B1.out.size
    clear hb2 hc
    have TOLD : ∃ o m k, (∀ j : Nat, atI r x = (j : Int) → w2.cell? ⟨g, j, none⟩ = some (.slice o m k)) ∧ (atI r x = -1 → Value.slice o m k = .slice none 0 0) ∧ Row w2 w1.heap.size 9 1 eS (.slice o m k) (sltF 12 r x) := by
      rcases at_cases r x with e | ⟨k', hk', e, _⟩
      · refine ⟨none, 0, 0, fun j hj => by omega, fun _ => rfl, ?_⟩
        rw [slt_none e 12]; exact Row.nil _ _ _ _ _
      · obtain ⟨v, hv, hrow⟩ := HC.out k' (by have := HL.out; omega)
        rw [phN_at hk', ← slt_at HR.out hk' e 11] at hrow
        obtain ⟨o, k, hf⟩ := Row.form hrow
        subst hf
        refine ⟨o, _, k, fun j hj => ?_, fun h => by omega, hrow⟩
        obtain rfl : j = k' := by omega
        exact hv
    obtain ⟨o, m, k, ta, tb, tr⟩ := TOLD
    have TR : Hid (Row w2 w1.heap.size 9 1 eS (.slice o m k) (sltF 12 r x)) := tr
    have C : Hid _ := ofS_any S r oa n cap x g o m k w2 (H.out _ B2.out) HL.out (HS.out _ B2.out) hg ta tb
    clear ta tb tr
    go_wp2_with fail
    refine Calls.mono C.out ?_
    rintro e w3 ⟨rfl, hb3⟩
    have B3 : Hid (Below w.heap.size w w3) := B2.out.trans (hb3.mono B2.out.size)
    have R3 : Hid (Row w3 w.heap.size 9 1 eS (.slice o m k) (sltF 12 r x)) := (Row.below TR.out hb3).low (by omega)
    clear hb3
    go_wp2_with fail
    go_ret
    exact ⟨_, rfl, onS R3.out (fun q hq => World.ownsRow.lt R3.out q hq) (fun y hy => Nat.le_trans (slt_names HR.out 12 x y hy) (by decide)), B3.out⟩

end Go.Proofs.Ytkbocdkgkhgioac
