/-
  Where a batch stands in a book of shares, by the program.
-/
import Derived.Test.YtidojjecjjochacGreatDoorZpa
import Derived.Laws.EntriesVeiled
namespace Go.Proofs.YtidojjecjjochacGreatDoor
open Go.RowKit


set_option maxRecDepth 100000 in
set_option maxHeartbeats 4000000 in
theorem batchAtIs_any (a x : ByteArray) (a1 a2 : Value) (nb : Nat) (w : World) (hx : w.cell? ⟨nb, 0, none⟩ = some (.string x)) (hnb : nb < w.heap.size) :
    Calls Tryz.prog 78 #[.agg #[.string a, a1, a2], .pointer (some ⟨nb, 0, none⟩)] w fun e w' => e = .returned (.bool (eqB a x)) ∧ Below w.heap.size w w' := by
  have hx' := fun o => cell_past hx hnb o
  go_enter Tryz.func78, Tryz.ntmps78
  go_wp2
  go_ret
  exact ⟨rfl, (Below.refl _ _).alloc (Nat.le_refl _) _⟩

set_option maxRecDepth 100000 in
set_option maxHeartbeats 4000000 in
theorem batchAtIdx_any (S : Nat → Prop) (v : Value) (l : List DShareBatch) (x : ByteArray) (nb : Nat) (w : World) (h : AtL S w l v) (hS : ∀ b, S b → b < w.heap.size) (hx : w.cell? ⟨nb, 0, none⟩ = some (.string x)) (hnb : nb < w.heap.size) :
    Calls Tryz.prog 77 #[v, .func (.func 78) #[] #[.pointer (some ⟨nb, 0, none⟩)]] w fun e w' => e = .returned (.int .i64 (idxI l (fun p : DShareBatch => eqB p.1 x))) ∧ Below w.heap.size w w' := by
  obtain ⟨oa, cap, rfl, hn, hc⟩ := h
  obtain ⟨n, en⟩ : ∃ n, l.length = n := ⟨_, rfl⟩
  rw [en] at hn
  rw [en]
  unfold maxLen at hn
  have HC : Hid _ := hc
  have HX : Hid _ := hx
  clear hc hx
  go_enter Tryz.func77, Tryz.ntmps77
  go_wp2
  go_loopw [8] (fun i wr => ∃ k : Nat, k ≤ n ∧ i = .int .i64 k ∧ Hid (∀ j (hj : j < l.length), j < k → eqB l[j].1 x = false) ∧ Hid (Below w.heap.size w wr)) (fun i _ => n - (intOf i).toNat)
  case atStart => exact ⟨0, Nat.zero_le _, rfl, fun _ _ h => by omega, Below.refl _ _⟩
  case round =>
    obtain ⟨k, hk, rfl, hno, hbel⟩ := hrel
    have hs := hbel.out.size
    by_cases hlt : k < n
    · obtain ⟨b, off, rfl, hbS, ce, hcelle, hate⟩ := HC.out k (by omega)
      have hbb := hS b hbS
      have hbw := hbel.out
      rw [width_DShareBatch] at hcelle
      have e0 : wr.cell? ⟨b, off + k * 3, none⟩ = some (ce 0) := (hbw.cell (p := ⟨b, off + k * 3, none⟩) (by show b < _; omega)).trans (by simpa using hcelle 0 (by omega))
      have e1 : wr.cell? ⟨b, off + k * 3 + 1, none⟩ = some (ce 1) := (hbw.cell (p := ⟨b, off + k * 3 + 1, none⟩) (by show b < _; omega)).trans (by simpa using hcelle 1 (by omega))
      have e2 : wr.cell? ⟨b, off + k * 3 + 2, none⟩ = some (ce 2) := (hbw.cell (p := ⟨b, off + k * 3 + 2, none⟩) (by show b < _; omega)).trans (by simpa using hcelle 2 (by omega))
      clear hcelle
      have hate := Lay.same hate (Same.of_below hbw hS)
      rw [at_DShareBatch] at hate
      obtain ⟨ef, eef⟩ : ∃ f, l[k]'(by omega) = f := ⟨_, rfl⟩
      rw [eef] at hate
      obtain ⟨⟨te0, ze0⟩, le1, le2⟩ := hate
      obtain ⟨soe1, sce1, te1, _⟩ := id le1
      clear le1
      obtain ⟨soe2, sce2, te2, _⟩ := id le2
      clear le2
      rw [te0] at e0
      rw [te1] at e1
      rw [te2] at e2
      clear te0 te1 te2
      clear hbw
      have HXR : Hid (wr.cell? ⟨nb, 0, none⟩ = some (.string x)) := (hbel.out.cell (p := ⟨nb, 0, none⟩) hnb).trans HX.out
      cases hy : eqB ef.1 x
      · go_wp2_with (go_at_call 78; refine (batchAtIs_any _ x _ _ nb _ HXR.out (by omega)).mono ?_; rintro e w1 ⟨rfl, hb1⟩; rw [hy])
        go_roundw
        case rel => exact ⟨k + 1, by omega, by go_num, fun j hj hjk => by
          by_cases e : j = k
          · subst e; rw [eef]; exact hy
          · exact hno.out j hj (by omega), hbel.out.trans (hb1.mono hs)⟩
        case measure => simp [intOf]; omega
      · go_wp2_with (go_at_call 78; refine (batchAtIs_any _ x _ _ nb _ HXR.out (by omega)).mono ?_; rintro e w1 ⟨rfl, hb1⟩; rw [hy])
        rw [idx_yes (k := k) (by omega) (by rw [eef]; exact hy) hno.out]
        go_ret
        exact ⟨rfl, hbel.out.trans (hb1.mono hs)⟩
    · go_wp2
      go_ret
      rw [idx_no (fun j hj => hno.out j hj (by omega))]
      exact ⟨rfl, hbel.out⟩

set_option maxRecDepth 100000 in
set_option maxHeartbeats 4000000 in
theorem batchAtI_any (S : Nat → Prop) (v0 v1 : Value) (l : List DShareBatch) (x : ByteArray) (w : World) (h : AtL S w l v1) (hS : ∀ b, S b → b < w.heap.size) :
    Calls Tryz.prog 62 #[.agg #[v0, v1], .string x] w fun e w' => e = .returned (.int .i64 (idxI l (fun p : DShareBatch => eqB p.1 x))) ∧ Below w.heap.size w w' := by
  have hmf : ∀ (fn : Fn) (first cap : Array Value) (w : World), (Instr.makeFunc fn first cap).run Tryz.prog w = .ok (.func fn first cap) w := fun _ _ _ _ => rfl
  have H : Hid (∀ o1 o2, AtL S ((w.alloc o1).alloc o2) l v1) := fun o1 o2 => h.same (Same.of_below (((Below.refl _ _).alloc (Nat.le_refl _) o1).alloc (by simp) o2) hS)
  have HS : Hid (∀ o1 o2 b, S b → b < ((w.alloc o1).alloc o2).heap.size) := fun o1 o2 b hb => by have := hS b hb; simp; omega
  clear h
  go_enter Tryz.func62, Tryz.ntmps62
  go_wp2_with (go_at_call 77; refine (batchAtIdx_any S v1 l x (w.heap.size + 1) _ (H.out _ _) (HS.out _ _) (by simp) (by simp)).mono ?_; rintro e w1 ⟨rfl, hb1⟩)
  go_ret
  exact ⟨rfl, (((Below.refl _ _).alloc (Nat.le_refl _) _).alloc (by simp) _).trans (hb1.mono (by simp; omega))⟩

end Go.Proofs.YtidojjecjjochacGreatDoor
