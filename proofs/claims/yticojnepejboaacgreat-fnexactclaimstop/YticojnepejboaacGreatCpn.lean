/-
  The program's ClaimBookOk: its six tests, one after the other.
-/
import Derived.Test.YticojnepejboaacGreatCpk
namespace Go.Proofs.YticojnepejboaacGreat
open Go.RowKit

theorem spots_least {foes : List DClaimFoe} {sp : List DClaimSpot} (hf : foesI foes = true) (h : spotsI foes sp = true) : ∀ j (hj : j < sp.length), 0 ≤ sp[j].2.2.1 ∧ sp[j].2.2.1 ≤ 1000 := fun j hj => by
  rw [foes_same] at hf
  rw [spots_same hf] at h
  exact spot_least (spotT_B ((ok_iff.1 h).2 j hj))
theorem parts_uses {sp : List DClaimSpot} {va : List ByteArray} {seen : Int} {ps : List DClaimPart} (h : partsI sp va seen ps = true) : ∀ p ∈ ps, (p.2.1 = 1 ∨ p.2.1 = 2 ∨ p.2.1 = 3) ∧ ∀ u ∈ p.2.2.2.1, knowS sp u = true ∧ 0 ≤ u.2.2 ∧ u.2.2 ≤ 1000 := fun p hp => by
  obtain ⟨h1, _, h3⟩ := parts_want h hp
  refine ⟨want_kind h1, fun u hu => ?_⟩
  unfold knowB at h3
  rw [Bool.and_eq_true] at h3
  exact ⟨List.all_eq_true.1 h3.1 u hu, (want_use h1 hu).2.2⟩

set_option maxRecDepth 100000 in
set_option maxHeartbeats 4000000 in
theorem bookIC_any (S : Nat → Prop) (v0 v1 v2 v3 : Value) (seen : Int) (foes : List DClaimFoe) (sp : List DClaimSpot) (va : List ByteArray) (ps : List DClaimPart) (w : World) (h0 : AtL S w foes v0) (h1 : AtL S w sp v1) (h2 : AtL S w va v2) (h3 : AtL S w ps v3) (hS : ∀ b, S b → b < w.heap.size) :
    Calls Tryz.prog 50 #[.agg #[v0, v1, v2, v3, .int .i64 seen]] w fun e w' => e = .returned (.bool (bookS foes sp va ps seen)) ∧ Below w.heap.size w w' := by
  have H0 : Hid (AtL S w foes v0) := h0
  have H1 : Hid (AtL S w sp v1) := h1
  have H2 : Hid (AtL S w va v2) := h2
  have H3 : Hid (AtL S w ps v3) := h3
  clear h0 h1 h2 h3
  go_enter Tryz.func50, Tryz.ntmps50
  go_wp2
  go_loopw [7] (fun i wr => ∃ k : Nat, k ≤ 6 ∧ i = .int .i64 k ∧ Hid (Below (w.heap.size + 2) ((w.alloc (.cells #[v0, v1, v2, v3, .int .i64 seen] 33)).alloc (.cells #[.func (.func 69) #[] #[], .func (.func 70) #[] #[], .func (.func 71) #[] #[], .func (.func 72) #[] #[], .func (.func 73) #[] #[], .func (.func 74) #[] #[]] 44)) wr) ∧ Hid (∀ j, j < k → tstC foes sp va ps seen j = true)) (fun i _ => 6 - (intOf i).toNat)
  case atStart => exact ⟨0, by omega, rfl, Below.refl _ _, fun _ h => by omega⟩
  case round =>
    obtain ⟨k, hk6, rfl, hbel, hyes⟩ := hrel
    have hsz : w.heap.size + 2 ≤ wr.heap.size := by have := hbel.out.size; simp at this; omega
    have hbw : Hid (Below w.heap.size w wr) := (((Below.refl _ _).alloc (Nat.le_refl _) _).alloc (by simp) _).trans (hbel.out.mono (by omega))
    have hSr : ∀ b, S b → b < wr.heap.size := fun b hb => by have := hS b hb; omega
    have sm := Same.of_below hbw.out hS
    have K0 : Hid (AtL S wr foes v0) := H0.out.same sm
    have K1 : Hid (AtL S wr sp v1) := H1.out.same sm
    have K2 : Hid (AtL S wr va v2) := H2.out.same sm
    have K3 : Hid (AtL S wr ps v3) := H3.out.same sm
    have x0 : wr.cell? ⟨w.heap.size, 0, none⟩ = some (v0) := (hbel.out.cell (p := ⟨w.heap.size, 0, none⟩) (by show w.heap.size < _; omega)).trans (by simp)
    have x1 : wr.cell? ⟨w.heap.size, 1, none⟩ = some (v1) := (hbel.out.cell (p := ⟨w.heap.size, 1, none⟩) (by show w.heap.size < _; omega)).trans (by simp)
    have x2 : wr.cell? ⟨w.heap.size, 2, none⟩ = some (v2) := (hbel.out.cell (p := ⟨w.heap.size, 2, none⟩) (by show w.heap.size < _; omega)).trans (by simp)
    have x3 : wr.cell? ⟨w.heap.size, 3, none⟩ = some (v3) := (hbel.out.cell (p := ⟨w.heap.size, 3, none⟩) (by show w.heap.size < _; omega)).trans (by simp)
    have x4 : wr.cell? ⟨w.heap.size, 4, none⟩ = some (.int .i64 seen) := (hbel.out.cell (p := ⟨w.heap.size, 4, none⟩) (by show w.heap.size < _; omega)).trans (by simp)
    rcases (show k = 0 ∨ k = 1 ∨ k = 2 ∨ k = 3 ∨ k = 4 ∨ k = 5 ∨ k = 6 by omega) with rfl | rfl | rfl | rfl | rfl | rfl | rfl
    · have c : wr.cell? ⟨w.heap.size + 1, 0, none⟩ = some (.func (.func 69) #[] #[]) := (hbel.out.cell (p := ⟨w.heap.size + 1, 0, none⟩) (by show w.heap.size + 1 < _; omega)).trans (by simp)
      cases hb : tstC foes sp va ps seen 0
      · go_wp2_with fail
        refine (claimFoes_any S v0 v1 v2 v3 seen foes _ K0.out hSr).mono ?_
        rintro e u ⟨rfl, hu⟩
        rw [show foesI foes = false from hb]
        go_wp2_with fail
        rw [book_no 0 (by omega) hb]
        go_ret
        exact ⟨rfl, hbw.out.trans (hu.mono (by omega))⟩
      · go_wp2_with fail
        refine (claimFoes_any S v0 v1 v2 v3 seen foes _ K0.out hSr).mono ?_
        rintro e u ⟨rfl, hu⟩
        rw [show foesI foes = true from hb]
        go_wp2_with fail
        go_roundw
        case rel =>
          refine ⟨0 + 1, by omega, by go_num, hbel.out.trans (hu.mono (by omega)), fun j hj => ?_⟩
          by_cases e : j = 0
          · subst e; exact hb
          · exact hyes.out j (by omega)
        case measure => simp [intOf]
    · have hf : foes.length ≤ 1048576 := by have := (ok_iff.1 (show foesI foes = true from hyes.out 0 (by omega))).1; omega
      have c : wr.cell? ⟨w.heap.size + 1, 1, none⟩ = some (.func (.func 70) #[] #[]) := (hbel.out.cell (p := ⟨w.heap.size + 1, 1, none⟩) (by show w.heap.size + 1 < _; omega)).trans (by simp)
      cases hb : tstC foes sp va ps seen 1
      · go_wp2_with fail
        refine (claimSpots_any S v0 v1 v2 v3 seen foes sp _ K0.out K1.out hSr hf).mono ?_
        rintro e u ⟨rfl, hu⟩
        rw [show spotsI foes sp = false from hb]
        go_wp2_with fail
        rw [book_no 1 (by omega) hb]
        go_ret
        exact ⟨rfl, hbw.out.trans (hu.mono (by omega))⟩
      · go_wp2_with fail
        refine (claimSpots_any S v0 v1 v2 v3 seen foes sp _ K0.out K1.out hSr hf).mono ?_
        rintro e u ⟨rfl, hu⟩
        rw [show spotsI foes sp = true from hb]
        go_wp2_with fail
        go_roundw
        case rel =>
          refine ⟨1 + 1, by omega, by go_num, hbel.out.trans (hu.mono (by omega)), fun j hj => ?_⟩
          by_cases e : j = 1
          · subst e; exact hb
          · exact hyes.out j (by omega)
        case measure => simp [intOf]
    · have c : wr.cell? ⟨w.heap.size + 1, 2, none⟩ = some (.func (.func 71) #[] #[]) := (hbel.out.cell (p := ⟨w.heap.size + 1, 2, none⟩) (by show w.heap.size + 1 < _; omega)).trans (by simp)
      cases hb : tstC foes sp va ps seen 2
      · go_wp2_with fail
        refine (claimValves_any S v0 v1 v2 v3 seen va _ K2.out hSr).mono ?_
        rintro e u ⟨rfl, hu⟩
        rw [show valvesI va seen = false from hb]
        go_wp2_with fail
        rw [book_no 2 (by omega) hb]
        go_ret
        exact ⟨rfl, hbw.out.trans (hu.mono (by omega))⟩
      · go_wp2_with fail
        refine (claimValves_any S v0 v1 v2 v3 seen va _ K2.out hSr).mono ?_
        rintro e u ⟨rfl, hu⟩
        rw [show valvesI va seen = true from hb]
        go_wp2_with fail
        go_roundw
        case rel =>
          refine ⟨2 + 1, by omega, by go_num, hbel.out.trans (hu.mono (by omega)), fun j hj => ?_⟩
          by_cases e : j = 2
          · subst e; exact hb
          · exact hyes.out j (by omega)
        case measure => simp [intOf]
    · have c : wr.cell? ⟨w.heap.size + 1, 3, none⟩ = some (.func (.func 72) #[] #[]) := (hbel.out.cell (p := ⟨w.heap.size + 1, 3, none⟩) (by show w.heap.size + 1 < _; omega)).trans (by simp)
      cases hb : tstC foes sp va ps seen 3
      · go_wp2_with fail
        refine (claimParts_any S v0 v1 v2 v3 seen sp va ps _ K1.out K2.out K3.out hSr).mono ?_
        rintro e u ⟨rfl, hu⟩
        rw [show partsI sp va seen ps = false from hb]
        go_wp2_with fail
        rw [book_no 3 (by omega) hb]
        go_ret
        exact ⟨rfl, hbw.out.trans (hu.mono (by omega))⟩
      · go_wp2_with fail
        refine (claimParts_any S v0 v1 v2 v3 seen sp va ps _ K1.out K2.out K3.out hSr).mono ?_
        rintro e u ⟨rfl, hu⟩
        rw [show partsI sp va seen ps = true from hb]
        go_wp2_with fail
        go_roundw
        case rel =>
          refine ⟨3 + 1, by omega, by go_num, hbel.out.trans (hu.mono (by omega)), fun j hj => ?_⟩
          by_cases e : j = 3
          · subst e; exact hb
          · exact hyes.out j (by omega)
        case measure => simp [intOf]
    · have hp3 : partsI sp va seen ps = true := hyes.out 3 (by omega)
      have hl6 : ps.length ≤ 6 := (ok_iff.1 hp3).1
      have hl : ∀ p ∈ ps, p.2.2.2.1.length ≤ 8 ∧ p.2.2.2.2.1.length ≤ 12 := fun p hp => want_lens (parts_want hp3 hp).1
      clear hp3
      have c : wr.cell? ⟨w.heap.size + 1, 4, none⟩ = some (.func (.func 73) #[] #[]) := (hbel.out.cell (p := ⟨w.heap.size + 1, 4, none⟩) (by show w.heap.size + 1 < _; omega)).trans (by simp)
      cases hb : tstC foes sp va ps seen 4
      · go_wp2_with fail
        refine (apart_any S v0 v1 v2 v3 seen ps _ K3.out hSr hl6 hl).mono ?_
        rintro e u ⟨rfl, hu⟩
        rw [show apartI ps = false from hb]
        go_wp2_with fail
        rw [book_no 4 (by omega) hb]
        go_ret
        exact ⟨rfl, hbw.out.trans (hu.mono (by omega))⟩
      · go_wp2_with fail
        refine (apart_any S v0 v1 v2 v3 seen ps _ K3.out hSr hl6 hl).mono ?_
        rintro e u ⟨rfl, hu⟩
        rw [show apartI ps = true from hb]
        go_wp2_with fail
        go_roundw
        case rel =>
          refine ⟨4 + 1, by omega, by go_num, hbel.out.trans (hu.mono (by omega)), fun j hj => ?_⟩
          by_cases e : j = 4
          · subst e; exact hb
          · exact hyes.out j (by omega)
        case measure => simp [intOf]
    · have hsp := spots_least (hyes.out 0 (by omega)) (hyes.out 1 (by omega))
      have hpp := parts_uses (hyes.out 3 (by omega))
      have c : wr.cell? ⟨w.heap.size + 1, 5, none⟩ = some (.func (.func 74) #[] #[]) := (hbel.out.cell (p := ⟨w.heap.size + 1, 5, none⟩) (by show w.heap.size + 1 < _; omega)).trans (by simp)
      cases hb : tstC foes sp va ps seen 5
      · go_wp2_with fail
        refine (places_any S v0 v1 v2 v3 seen sp ps _ K1.out K3.out hSr hsp hpp).mono ?_
        rintro e u ⟨rfl, hu⟩
        rw [show placesI sp ps = false from hb]
        go_wp2_with fail
        rw [book_no 5 (by omega) hb]
        go_ret
        exact ⟨rfl, hbw.out.trans (hu.mono (by omega))⟩
      · go_wp2_with fail
        refine (places_any S v0 v1 v2 v3 seen sp ps _ K1.out K3.out hSr hsp hpp).mono ?_
        rintro e u ⟨rfl, hu⟩
        rw [show placesI sp ps = true from hb]
        go_wp2_with fail
        go_roundw
        case rel =>
          refine ⟨5 + 1, by omega, by go_num, hbel.out.trans (hu.mono (by omega)), fun j hj => ?_⟩
          by_cases e : j = 5
          · subst e; exact hb
          · exact hyes.out j (by omega)
        case measure => simp [intOf]
    · go_wp2_with fail
      rw [book_yes hyes.out]
      go_ret
      exact ⟨rfl, hbw.out⟩

end Go.Proofs.YticojnepejboaacGreat
