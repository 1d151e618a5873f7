/-
  The program's StuffBookOk: its five tests, one after the other.
-/
import Derived.Test.YthleodbbppgadaaGreatIn
namespace Go.Proofs.YthleodbbppgadaaGreat
open Go.RowKit

/-- Test k of a book. -/
noncomputable def tstI (a : DStuffBook) : Nat → Bool
  | 0 => okB 12 foeQ a.1
  | 1 => okB 16 lotQ a.2.1
  | 2 => okB 8 vesQ a.2.2.1
  | 3 => okB 12 (outQ a.2.2.1) a.2.2.2
  | 4 => holdI a
  | _ => true
theorem tst_all {a : DStuffBook} (h : ∀ j, j < 5 → tstI a j = true) : bookI a = true := by
  have h0 := h 0 (by omega)
  have h1 := h 1 (by omega)
  have h2 := h 2 (by omega)
  have h3 := h 3 (by omega)
  have h4 := h 4 (by omega)
  simp only [tstI] at h0 h1 h2 h3 h4
  unfold bookI
  rw [h0, h1, h2, h3, h4]; rfl
theorem tst_one {a : DStuffBook} (k : Nat) (hk : k < 5) (h : tstI a k = false) : bookI a = false := by
  unfold bookI
  rcases (show k = 0 ∨ k = 1 ∨ k = 2 ∨ k = 3 ∨ k = 4 by omega) with rfl | rfl | rfl | rfl | rfl <;> simp only [tstI] at h <;> rw [h] <;> simp only [Bool.false_and, Bool.and_false]

set_option maxRecDepth 100000 in
set_option maxHeartbeats 4000000 in
theorem bookI_v (S : Nat → Prop) (a : DStuffBook) (v0 v1 v2 v3 : Value) (w : World) (h0 : AtL S w a.1 v0) (h1 : AtL S w a.2.1 v1) (h2 : AtL S w a.2.2.1 v2) (h3 : AtL S w a.2.2.2 v3) (hS : ∀ b, S b → b < w.heap.size) :
    Calls Tryz.prog 26 #[.agg #[v0, v1, v2, v3]] w fun e w' => e = .returned (.bool (bookB a)) ∧ Below w.heap.size w w' := by
  rw [← book_same]
  have H0 : Hid (AtL S w a.1 v0) := h0
  have H1 : Hid (AtL S w a.2.1 v1) := h1
  have H2 : Hid (AtL S w a.2.2.1 v2) := h2
  have H3 : Hid (AtL S w a.2.2.2 v3) := h3
  clear h0 h1 h2 h3
  go_enter Tryz.func26, Tryz.ntmps26
  go_wp2
  go_loopw [7] (fun i wr => ∃ k : Nat, k ≤ 5 ∧ i = .int .i64 k ∧ Hid (Below (w.heap.size + 2) ((w.alloc (.cells #[v0, v1, v2, v3] 36)).alloc (.cells #[.func (.func 54) #[] #[], .func (.func 55) #[] #[], .func (.func 56) #[] #[], .func (.func 57) #[] #[], .func (.func 58) #[] #[]] 49)) wr) ∧ Hid (∀ j, j < k → tstI a j = true)) (fun i _ => 5 - (intOf i).toNat)
  case atStart => exact ⟨0, by omega, rfl, Below.refl _ _, fun _ h => by omega⟩
  case round =>
    obtain ⟨k, hk5, rfl, hbel, hyes⟩ := hrel
    have hsz : w.heap.size + 2 ≤ wr.heap.size := by have := hbel.out.size; simp at this; omega
    have hbw : Hid (Below w.heap.size w wr) := (((Below.refl _ _).alloc (Nat.le_refl _) _).alloc (by simp) _).trans (hbel.out.mono (by omega))
    have hSr : ∀ b, S b → b < wr.heap.size := fun b hb => by have := hS b hb; omega
    have sm := Same.of_below hbw.out hS
    have K0 : Hid (AtL S wr a.1 v0) := H0.out.same sm
    have K1 : Hid (AtL S wr a.2.1 v1) := H1.out.same sm
    have K2 : Hid (AtL S wr a.2.2.1 v2) := H2.out.same sm
    have K3 : Hid (AtL S wr a.2.2.2 v3) := H3.out.same sm
    have x0 : wr.cell? ⟨w.heap.size, 0, none⟩ = some v0 := (hbel.out.cell (p := ⟨w.heap.size, 0, none⟩) (by show w.heap.size < _; omega)).trans (by simp)
    have x1 : wr.cell? ⟨w.heap.size, 1, none⟩ = some v1 := (hbel.out.cell (p := ⟨w.heap.size, 1, none⟩) (by show w.heap.size < _; omega)).trans (by simp)
    have x2 : wr.cell? ⟨w.heap.size, 2, none⟩ = some v2 := (hbel.out.cell (p := ⟨w.heap.size, 2, none⟩) (by show w.heap.size < _; omega)).trans (by simp)
    have x3 : wr.cell? ⟨w.heap.size, 3, none⟩ = some v3 := (hbel.out.cell (p := ⟨w.heap.size, 3, none⟩) (by show w.heap.size < _; omega)).trans (by simp)
    rcases (show k = 0 ∨ k = 1 ∨ k = 2 ∨ k = 3 ∨ k = 4 ∨ k = 5 by omega) with rfl | rfl | rfl | rfl | rfl | rfl
    · have c : wr.cell? ⟨w.heap.size + 1, 0, none⟩ = some (.func (.func 54) #[] #[]) := (hbel.out.cell (p := ⟨w.heap.size + 1, 0, none⟩) (by show w.heap.size + 1 < _; omega)).trans (by simp)
      cases hb : tstI a 0
      · go_wp2_with fail
        refine (foesI_any S v0 v1 v2 v3 a.1 _ K0.out hSr).mono ?_
        rintro e u ⟨rfl, hu⟩
        rw [show okB 12 (tst (fun f : DStuffFoe => nameB f.1 && nameB f.2 && ltB f.1 f.2) (fun p f : DStuffFoe => befB p f)) a.1 = false from hb]
        go_wp2_with fail
        rw [tst_one 0 (by omega) hb]
        go_ret
        exact ⟨rfl, hbw.out.trans (hu.mono (by omega))⟩
      · go_wp2_with fail
        refine (foesI_any S v0 v1 v2 v3 a.1 _ K0.out hSr).mono ?_
        rintro e u ⟨rfl, hu⟩
        rw [show okB 12 (tst (fun f : DStuffFoe => nameB f.1 && nameB f.2 && ltB f.1 f.2) (fun p f : DStuffFoe => befB p f)) a.1 = true from hb]
        go_wp2_with fail
        go_roundw
        case rel =>
          refine ⟨0 + 1, by omega, by go_num, hbel.out.trans (hu.mono (by omega)), fun j hj => ?_⟩
          by_cases e : j = 0
          · subst e; exact hb
          · exact hyes.out j (by omega)
        case measure => simp [intOf]
    · have c : wr.cell? ⟨w.heap.size + 1, 1, none⟩ = some (.func (.func 55) #[] #[]) := (hbel.out.cell (p := ⟨w.heap.size + 1, 1, none⟩) (by show w.heap.size + 1 < _; omega)).trans (by simp)
      cases hb : tstI a 1
      · go_wp2_with fail
        refine (lotsI_any S v0 v1 v2 v3 a.2.1 _ K1.out hSr).mono ?_
        rintro e u ⟨rfl, hu⟩
        rw [show okB 16 (tst (fun f : DStuffLot => nameB f.1 && nameB f.2) (fun p f : DStuffLot => ltB p.1 f.1)) a.2.1 = false from hb]
        go_wp2_with fail
        rw [tst_one 1 (by omega) hb]
        go_ret
        exact ⟨rfl, hbw.out.trans (hu.mono (by omega))⟩
      · go_wp2_with fail
        refine (lotsI_any S v0 v1 v2 v3 a.2.1 _ K1.out hSr).mono ?_
        rintro e u ⟨rfl, hu⟩
        rw [show okB 16 (tst (fun f : DStuffLot => nameB f.1 && nameB f.2) (fun p f : DStuffLot => ltB p.1 f.1)) a.2.1 = true from hb]
        go_wp2_with fail
        go_roundw
        case rel =>
          refine ⟨1 + 1, by omega, by go_num, hbel.out.trans (hu.mono (by omega)), fun j hj => ?_⟩
          by_cases e : j = 1
          · subst e; exact hb
          · exact hyes.out j (by omega)
        case measure => simp [intOf]
    · have c : wr.cell? ⟨w.heap.size + 1, 2, none⟩ = some (.func (.func 56) #[] #[]) := (hbel.out.cell (p := ⟨w.heap.size + 1, 2, none⟩) (by show w.heap.size + 1 < _; omega)).trans (by simp)
      cases hb : tstI a 2
      · go_wp2_with fail
        refine (vesselsI_any S v0 v1 v2 v3 a.2.2.1 _ K2.out hSr).mono ?_
        rintro e u ⟨rfl, hu⟩
        rw [show okB 8 (tst (fun f : DStuffVessel => nameB f.1 && inB f.2.1 1 1000) (fun p f : DStuffVessel => ltB p.1 f.1)) a.2.2.1 = false from hb]
        go_wp2_with fail
        rw [tst_one 2 (by omega) hb]
        go_ret
        exact ⟨rfl, hbw.out.trans (hu.mono (by omega))⟩
      · go_wp2_with fail
        refine (vesselsI_any S v0 v1 v2 v3 a.2.2.1 _ K2.out hSr).mono ?_
        rintro e u ⟨rfl, hu⟩
        rw [show okB 8 (tst (fun f : DStuffVessel => nameB f.1 && inB f.2.1 1 1000) (fun p f : DStuffVessel => ltB p.1 f.1)) a.2.2.1 = true from hb]
        go_wp2_with fail
        go_roundw
        case rel =>
          refine ⟨2 + 1, by omega, by go_num, hbel.out.trans (hu.mono (by omega)), fun j hj => ?_⟩
          by_cases e : j = 2
          · subst e; exact hb
          · exact hyes.out j (by omega)
        case measure => simp [intOf]
    · have c : wr.cell? ⟨w.heap.size + 1, 3, none⟩ = some (.func (.func 57) #[] #[]) := (hbel.out.cell (p := ⟨w.heap.size + 1, 3, none⟩) (by show w.heap.size + 1 < _; omega)).trans (by simp)
      cases hb : tstI a 3
      · go_wp2_with fail
        refine (outsI_any S v0 v1 v2 v3 a.2.2.2 a.2.2.1 a.2.1 _ K3.out K1.out K2.out hSr).mono ?_
        rintro e u ⟨rfl, hu⟩
        rw [show okB 12 (tst (fun f : DStuffOut => nameB f.1 && !decide (0 ≤ idxI a.2.2.1 (fun p : DStuffVessel => eqB p.1 f.1))) (fun p f : DStuffOut => ltB p.1 f.1)) a.2.2.2 = false from hb]
        go_wp2_with fail
        rw [tst_one 3 (by omega) hb]
        go_ret
        exact ⟨rfl, hbw.out.trans (hu.mono (by omega))⟩
      · go_wp2_with fail
        refine (outsI_any S v0 v1 v2 v3 a.2.2.2 a.2.2.1 a.2.1 _ K3.out K1.out K2.out hSr).mono ?_
        rintro e u ⟨rfl, hu⟩
        rw [show okB 12 (tst (fun f : DStuffOut => nameB f.1 && !decide (0 ≤ idxI a.2.2.1 (fun p : DStuffVessel => eqB p.1 f.1))) (fun p f : DStuffOut => ltB p.1 f.1)) a.2.2.2 = true from hb]
        go_wp2_with fail
        go_roundw
        case rel =>
          refine ⟨3 + 1, by omega, by go_num, hbel.out.trans (hu.mono (by omega)), fun j hj => ?_⟩
          by_cases e : j = 3
          · subst e; exact hb
          · exact hyes.out j (by omega)
        case measure => simp [intOf]
    · have hf : a.1.length ≤ 1048576 := by have := (ok_iff.1 (show okB 12 foeQ a.1 = true from hyes.out 0 (by omega))).1; omega
      have hl : a.2.1.length ≤ 1048576 := by have := (ok_iff.1 (show okB 16 lotQ a.2.1 = true from hyes.out 1 (by omega))).1; omega
      have c : wr.cell? ⟨w.heap.size + 1, 4, none⟩ = some (.func (.func 58) #[] #[]) := (hbel.out.cell (p := ⟨w.heap.size + 1, 4, none⟩) (by show w.heap.size + 1 < _; omega)).trans (by simp)
      cases hb : tstI a 4
      · go_wp2_with fail
        refine (holdI_any S a v0 v1 v2 v3 _ K0.out K1.out K2.out K3.out hSr hf hl).mono ?_
        rintro e u ⟨rfl, hu⟩
        rw [show holdI a = false from hb]
        go_wp2_with fail
        rw [tst_one 4 (by omega) hb]
        go_ret
        exact ⟨rfl, hbw.out.trans (hu.mono (by omega))⟩
      · go_wp2_with fail
        refine (holdI_any S a v0 v1 v2 v3 _ K0.out K1.out K2.out K3.out hSr hf hl).mono ?_
        rintro e u ⟨rfl, hu⟩
        rw [show holdI a = true from hb]
        go_wp2_with fail
        go_roundw
        case rel =>
          refine ⟨4 + 1, by omega, by go_num, hbel.out.trans (hu.mono (by omega)), fun j hj => ?_⟩
          by_cases e : j = 4
          · subst e; exact hb
          · exact hyes.out j (by omega)
        case measure => simp [intOf]
    · go_wp2_with fail
      rw [tst_all hyes.out]
      go_ret
      exact ⟨rfl, hbw.out⟩

theorem bookI_any (S : Nat → Prop) (a : DStuffBook) (c : Nat → Value) (w : World) (h : Lay.At S w a c) (hS : ∀ b, S b → b < w.heap.size) :
    Calls Tryz.prog 26 #[.agg #[c 0, c 1, c 2, c 3]] w fun e w' => e = .returned (.bool (bookB a)) ∧ Below w.heap.size w w' := by
  rw [at_DStuffBook] at h
  exact bookI_v S a _ _ _ _ w h.1 h.2.1 h.2.2.1 h.2.2.2 hS

end Go.Proofs.YthleodbbppgadaaGreat
