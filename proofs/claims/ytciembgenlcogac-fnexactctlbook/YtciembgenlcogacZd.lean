/-
  Contracts of the program's tests of stuffs, foes, places and valves.
-/
import Derived.Test.YtciembgenlcogacZc
namespace Go.Proofs.Ytciembgenlcogac
open Go.RowKit

def stuffQ (f : Nat → ByteArray) (i : Nat) : Prop := nameB (f i) = true
def foeQ (n : Nat) (f : Nat → ByteArray) (g : Nat → ByteArray × ByteArray) (i : Nat) : Prop := ltB (g i).1 (g i).2 = true ∧ hasB n f (g i).1 = true ∧ hasB n f (g i).2 = true
def placeQ (f : Nat → ByteArray × Int × ByteArray) (i : Nat) : Prop := nameB (f i).1 = true ∧ decide ((f i).2.1 < 0) = false ∧ decide (1000 < (f i).2.1) = false ∧ nameB (f i).2.2 = true
def valveQ (n : Nat) (g : Nat → ByteArray × Int × ByteArray) (f : Nat → ByteArray × ByteArray × ByteArray × ByteArray) (i : Nat) : Prop :=
  nameB (f i).1 = true ∧ ltB (f i).2.1 (f i).2.2.1 = true ∧ decide (0 ≤ placeI n g (f i).2.1) = true ∧ decide (0 ≤ placeI n g (f i).2.2.1) = true ∧ nameB (f i).2.2.2 = true

theorem hasI_b (B : Nat) (v : Value) (n : Nat) (f : Nat → ByteArray) (x : ByteArray) (w : World) (h : Lst B w v n 1 (cS f)) : Calls Try.prog 77 #[v, .string x] w fun e w' => e = .returned (.bool (hasB n f x)) ∧ Below w.heap.size w w' :=
  (hasI_any B v n f x w h).mono fun _ _ ⟨he, hw⟩ => ⟨he, by subst hw; exact Below.refl _ _⟩

set_option maxRecDepth 100000 in
set_option maxHeartbeats 4000000 in
theorem stuffsI_any (B : Nat) (v0 v1 v2 v3 : Value) (nf : Nat) (ff : Nat → ByteArray) (w : World) (h1 : Lst B w v0 nf 1 (cS ff)) (hB : B ≤ w.heap.size) (hz : ∀ i, i < nf → (ff i).size ≤ maxLen ∧ True) :
    Calls Try.prog 53 #[.agg #[v0, v1, v2, v3]] w fun e w' => ∃ b, e = .returned (.bool b) ∧ (b = true ↔ nf ≤ 8 ∧ (∀ i, i < nf → stuffQ ff i) ∧ ∀ i, 0 < i → i < nf → ltB (ff (i - 1)) (ff i) = true) ∧ Below w.heap.size w w' := by
  have H1 : Hid (Lst B w v0 nf 1 (cS ff)) := h1
  obtain ⟨o1, cap1, rfl, hn1, hc1⟩ := h1
  unfold maxLen at hn1
  have HC1 : Hid _ := hc1
  have HZ : Hid _ := hz
  clear hc1 hz
  by_cases hl : nf ≤ 8
  · have d0 : decide ((8 : Int) < (nf : Int)) = false := by simp; omega
    go_enter Try.func53, Try.ntmps53
    go_wp2
    go_loopw [12] (fun i wr => ∃ q : Nat, q ≤ nf ∧ i = .int .i64 q ∧ Hid (∀ j, j < q → stuffQ ff j) ∧ Hid (Below (w.heap.size + 1) (w.alloc (.cells #[.slice o1 nf cap1, v1, v2, v3] 39)) wr)) (fun i _ => nf - (intOf i).toNat)
    case atStart => exact ⟨0, Nat.zero_le _, rfl, fun _ h => by omega, Below.refl _ _⟩
    case round =>
      obtain ⟨q, hq, rfl, hallf, hbel⟩ := hrel
      have b0 := box_in hbel.out 0 _ rfl
      have b1 := box_in hbel.out 1 _ rfl
      have b2 := box_in hbel.out 2 _ rfl
      have b3 := box_in hbel.out 3 _ rfl
      simp only [List.getElem_toArray, List.getElem_cons_zero, List.getElem_cons_succ] at b0 b1 b2 b3
      have hsz : w.heap.size + 1 ≤ wr.heap.size := by have := hbel.out.size; simpa using this
      by_cases hlq : q < nf
      · obtain ⟨b, off, rfl, hbB, hcell⟩ := HC1.out q hlq
        obtain ⟨hz1, _⟩ := HZ.out q hlq
        have e0 : wr.cell? ⟨b, off + q, none⟩ = some (.string (ff q)) := old_in hbel.out (by omega) (by simpa [cS] using hcell 0 (by omega))
        have hW := hbel
        have hsw : wr.heap.size ≤ wr.heap.size := Nat.le_refl _
        cases hnm : nameB (ff q)
        · go_wp2_with fail
          refine (nameI_any _ _ hz1).mono ?_; rintro e u' ⟨rfl, hb'⟩
          rw [hnm]
          have hW' : Hid (Below (w.heap.size + 1) _ u') := below_of hW.out hb'
          go_wp2_with fail
          go_ret
          exact ⟨false, rfl, ⟨(fun h => by cases h), fun h => absurd (h.2.1 q hlq) (by intro h; have h' : nameB (ff q) = true := h; rw [hnm] at h'; cases h')⟩, below_end hW'.out⟩
        · go_wp2_with fail
          refine (nameI_any _ _ hz1).mono ?_; rintro e u' ⟨rfl, hb'⟩
          rw [hnm]
          have hW' : Hid (Below (w.heap.size + 1) _ u') := below_of hW.out hb'
          have hsw' : wr.heap.size ≤ u'.heap.size := Nat.le_trans hsw hb'.size
          go_wp2_with fail
          go_roundw
          case rel => exact ⟨q + 1, by omega, by go_num, fun j hj => by
            by_cases e : j = q
            · subst e; exact hnm
            · exact hallf.out j (by omega), hW'⟩
          case measure => simp [intOf]; omega
      · have hqn : q = nf := by omega
        subst hqn
        have HL := H1.out.kept (below_end hbel.out) hB
        go_wp2_with fail
        refine (ascS_any B _ q ff _ HL (by omega)).mono ?_; rintro e u ⟨bb, rfl, hiff, hbu⟩
        go_wp2_with fail
        go_ret
        refine ⟨bb, rfl, ⟨fun h => ⟨hl, hallf.out, hiff.1 h⟩, fun h => hiff.2 h.2.2⟩, below_end (below_of hbel.out hbu)⟩
  · have d0 : decide ((8 : Int) < (nf : Int)) = true := by simp; omega
    go_enter Try.func53, Try.ntmps53
    go_wp2
    go_ret
    exact ⟨false, rfl, ⟨(fun h => by cases h), fun h => absurd h.1 hl⟩, (Below.refl _ _).alloc (Nat.le_refl _) _⟩

end Go.Proofs.Ytciembgenlcogac
