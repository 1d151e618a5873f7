/-
  A contract of the program that takes what a want claims into the map of what is claimed.
-/
import Derived.Test.YticojnepejboaacGreatCpc
namespace Go.Proofs.YticojnepejboaacGreat
open Go.RowKit

/-- The places of some uses more; the valves of some names more. -/
def addU (M : ByteArray → ByteArray → Int) (us : List DClaimUse) : ByteArray → ByteArray → Int := us.foldl (fun M u => putN M u.1 noT (M u.1 noT + 1)) M
def addV (M : ByteArray → ByteArray → Int) (os : List ByteArray) : ByteArray → ByteArray → Int := os.foldl (fun M v => putN M noT v (M noT v + 1)) M
theorem addU_take (M : ByteArray → ByteArray → Int) (us : List DClaimUse) (k : Nat) (h : k < us.length) : addU M (us.take (k + 1)) = putN (addU M (us.take k)) us[k].1 noT (addU M (us.take k) us[k].1 noT + 1) := by
  unfold addU
  rw [List.take_add_one, List.getElem?_eq_getElem h, List.foldl_append]
  rfl
theorem addV_take (M : ByteArray → ByteArray → Int) (os : List ByteArray) (k : Nat) (h : k < os.length) : addV M (os.take (k + 1)) = putN (addV M (os.take k)) noT os[k] (addV M (os.take k) noT os[k] + 1) := by
  unfold addV
  rw [List.take_add_one, List.getElem?_eq_getElem h, List.foldl_append]
  rfl
theorem put_bound {M : ByteArray → ByteArray → Int} {c : Nat} (x y : ByteArray) (h : ∀ p q, 0 ≤ M p q ∧ M p q ≤ c) : ∀ p q, 0 ≤ putN M x y (M x y + 1) p q ∧ putN M x y (M x y + 1) p q ≤ (c + 1 : Nat) := fun p q => by
  have h1 := h x y
  have h2 := h p q
  unfold putN
  split <;> omega
theorem addU_bound : ∀ (us : List DClaimUse) (M : ByteArray → ByteArray → Int) (c : Nat), (∀ p q, 0 ≤ M p q ∧ M p q ≤ c) → ∀ p q, 0 ≤ addU M us p q ∧ addU M us p q ≤ (c + us.length : Nat)
  | [], M, c, h => h
  | u :: us, M, c, h => fun p q => by
    have := addU_bound us _ (c + 1) (put_bound u.1 noT h) p q
    rw [List.length_cons, show c + (us.length + 1) = c + 1 + us.length by omega]
    exact this
theorem addV_bound : ∀ (os : List ByteArray) (M : ByteArray → ByteArray → Int) (c : Nat), (∀ p q, 0 ≤ M p q ∧ M p q ≤ c) → ∀ p q, 0 ≤ addV M os p q ∧ addV M os p q ≤ (c + os.length : Nat)
  | [], M, c, h => h
  | u :: os, M, c, h => fun p q => by
    have := addV_bound os _ (c + 1) (put_bound noT u h) p q
    rw [List.length_cons, show c + (os.length + 1) = c + 1 + os.length by omega]
    exact this
theorem cell_of_heap {w : World} {b j : Nat} {c : Array Value} {t : TypeId} {v : Value} (h : w.heap[b]? = some (.cells c t)) (hv : c[j]? = some v) : w.cell? ⟨b, j, none⟩ = some v := by
  simp only [World.cell?, h, hv]; rfl

set_option maxRecDepth 100000 in
set_option maxHeartbeats 4000000 in
theorem addC_any (S : Nat → Prop) (m : Nat) (M : ByteArray → ByteArray → Int) (c : Nat) (x0 x1 x2 x3 x4 x5 : Value) (us : List DClaimUse) (os : List ByteArray) (w : World) (h : Mc w m M) (h3 : AtL S w us x3) (h4 : AtL S w os x4) (hS : ∀ b, S b → b < m) (hM : ∀ p q, 0 ≤ M p q ∧ M p q ≤ c) (hc : c + us.length + os.length ≤ 1048576) :
    Calls Tryz.prog 105 #[.map (some m), .agg #[x0, x1, x2, x3, x4, x5]] w fun e w' => e = .returned (.tuple #[]) ∧ Mc w' m (addV (addU M us) os) ∧ Below m w w' := by
  have hlt := h.lt
  obtain ⟨o3, k3, rfl, hn3, hc3⟩ := h3
  obtain ⟨o4, k4, rfl, hn4, hc4⟩ := h4
  obtain ⟨n3, en3⟩ : ∃ n, us.length = n := ⟨_, rfl⟩
  obtain ⟨n4, en4⟩ : ∃ n, os.length = n := ⟨_, rfl⟩
  rw [en3] at hn3
  rw [en4] at hn4
  rw [en3, en4]
  unfold maxLen at hn3 hn4
  have HC3 : Hid _ := hc3
  have HC4 : Hid _ := hc4
  have HM : Hid _ := hM
  have H0 : Hid (Mc (w.alloc (.cells #[x0, x1, x2, .slice o3 n3 k3, .slice o4 n4 k4, x5] 48)) m M) := h.of_block (Below.heap_alloc w _ _ hlt)
  have HB0 : Hid (Below m w (w.alloc (.cells #[x0, x1, x2, .slice o3 n3 k3, .slice o4 n4 k4, x5] 48))) := (Below.refl _ _).alloc (by omega) _
  have HX0 : Hid ((w.alloc (.cells #[x0, x1, x2, .slice o3 n3 k3, .slice o4 n4 k4, x5] 48)).heap[w.heap.size]? = some (.cells #[x0, x1, x2, .slice o3 n3 k3, .slice o4 n4 k4, x5] 48)) := (MapKept.heap_alloc w _).1
  have HUB : Hid (∀ p q, 0 ≤ addU M us p q ∧ addU M us p q ≤ (c + us.length : Nat)) := addU_bound us M c hM
  clear hc3 hc4 hM h
  go_enter Tryz.func105, Tryz.ntmps105
  go_wp2
  go_loopw [11] (fun i wr => ∃ k : Nat, k ≤ n3 ∧ i = .int .i64 k ∧ Hid (Mc wr m (addU M (us.take k))) ∧ Hid (Below m w wr) ∧ Hid (wr.heap[w.heap.size]? = some (.cells #[x0, x1, x2, .slice o3 n3 k3, .slice o4 n4 k4, x5] 48))) (fun i _ => n3 - (intOf i).toNat)
  case atStart => exact ⟨0, Nat.zero_le _, rfl, H0.out, HB0.out, HX0.out⟩
  case round =>
    obtain ⟨k, hk, rfl, hmp, hbl, hbx⟩ := hrel
    have hml := hmp.out.lt
    have hmw := hbl.out.size
    by_cases hlt : k < n3
    · obtain ⟨b, off, rfl, hbS, ce, hcelle, hate⟩ := HC3.out k (by omega)
      have hbb := hS b hbS
      have hbw := hbl.out
      rw [width_DClaimUse] at hcelle
      have e0 : wr.cell? ⟨b, off + k * 3, none⟩ = some (ce 0) := (hbw.cell (p := ⟨b, off + k * 3, none⟩) (by show b < _; omega)).trans (by simpa using hcelle 0 (by omega))
      have e1 : wr.cell? ⟨b, off + k * 3 + 1, none⟩ = some (ce 1) := (hbw.cell (p := ⟨b, off + k * 3 + 1, none⟩) (by show b < _; omega)).trans (by simpa using hcelle 1 (by omega))
      have e2 : wr.cell? ⟨b, off + k * 3 + 2, none⟩ = some (ce 2) := (hbw.cell (p := ⟨b, off + k * 3 + 2, none⟩) (by show b < _; omega)).trans (by simpa using hcelle 2 (by omega))
      clear hcelle
      have hate := Lay.same hate (Same.of_below hbw hS)
      rw [at_DClaimUse] at hate
      obtain ⟨ef, eef⟩ : ∃ f, us[k]'(by omega) = f := ⟨_, rfl⟩
      rw [eef] at hate
      obtain ⟨⟨te0, ze0⟩, ⟨te1, zle1, zhe1⟩, ⟨te2, zle2, zhe2⟩⟩ := hate
      rw [te0] at e0
      rw [te1] at e1
      rw [te2] at e2
      clear te0 te1 te2
      clear hbw
      have mA : Mc (wr.alloc (.cells #[.string ef.1, .int .i64 ef.2.1, .int .i64 ef.2.2] 106)).drew m (addU M (us.take k)) := hmp.out.of_block (Below.heap_alloc wr _ _ hml)
      obtain ⟨st, w1, w3, he, m1, _, hst, m3, g3⟩ := mA.entry ze0 noT_size ((addU M (us.take k)) ef.1 noT + 1)
      have l0 := mA.look ze0 noT_size
      have l1 := m1.look ze0 noT_size
      have hcb := addU_bound (us.take k) _ _ HM.out ef.1 noT
      rw [List.length_take] at hcb
      have M3 : Hid (Mc w3 m (addU M (us.take (k + 1)))) := by rw [addU_take _ _ k (by omega), eef]; exact m3
      have B3 : Hid (Below m w w3) := ((hbl.out.alloc (by omega) _).drew).grown g3 (by show m ≤ (wr.alloc (.cells #[.string ef.1, .int .i64 ef.2.1, .int .i64 ef.2.2] 106)).heap.size; simp; omega) (fun j hj => by cases hj; exact Nat.le_refl _)
      have hwl : w.heap.size < wr.heap.size := (Array.getElem?_eq_some_iff.1 hbx.out).1
      have X3 : Hid (w3.heap[w.heap.size]? = some (.cells #[x0, x1, x2, .slice (some ⟨b, off, none⟩) n3 k3, .slice o4 n4 k4, x5] 48)) := (g3.block w.heap.size (by show w.heap.size < (wr.alloc (.cells #[.string ef.1, .int .i64 ef.2.1, .int .i64 ef.2.2] 106)).heap.size; simp; omega) (fun e => by injection e with e; omega)).trans ((Below.heap_alloc wr _ _ hwl).trans hbx.out)
      clear m3 g3 m1 mA hmp hbl
      generalize (addU M (us.take k)) ef.1 noT = c0 at *
      go_wp2
      go_region
      go_wp2
      go_roundw
      case rel => exact ⟨k + 1, by omega, by go_num, M3.out, B3.out, X3.out⟩
      case measure => simp [intOf]; omega
    · have hkn : n3 = k := by omega
      subst hkn
      have hfull : us.take us.length = us := List.take_length
      have M1 : Hid (Mc wr m (addU M us)) := by have := hmp.out; rw [← en3, hfull] at this; exact this
      have y4 := cell_of_heap hbx.out (j := 4) (v := .slice o4 n4 k4) rfl
      obtain ⟨B1, X1⟩ : Hid (Below m w wr) ∧ Hid (wr.heap[w.heap.size]? = some (.cells #[x0, x1, x2, .slice o3 n3 k3, .slice o4 n4 k4, x5] 48)) := ⟨hbl, hbx⟩
      obtain ⟨wq, hwq⟩ : ∃ u, u = wr := ⟨_, rfl⟩
      subst hwq
      clear hmp hbl hbx
      go_wp2
      go_loopw [27] (fun i wr => ∃ k : Nat, k ≤ n4 ∧ i = .int .i64 k ∧ Hid (Mc wr m (addV (addU M us) (os.take k))) ∧ Hid (Below m w wr) ∧ Hid (wr.heap[w.heap.size]? = some (.cells #[x0, x1, x2, .slice o3 n3 k3, .slice o4 n4 k4, x5] 48))) (fun i _ => n4 - (intOf i).toNat)
      case atStart => exact ⟨0, Nat.zero_le _, rfl, M1.out, B1.out, X1.out⟩
      case round =>
        obtain ⟨k, hk, rfl, hmp, hbl, hbx⟩ := hrel
        have hml := hmp.out.lt
        have hmw := hbl.out.size
        by_cases hlt : k < n4
        · obtain ⟨b, off, rfl, hbS, ce, hcelle, hate⟩ := HC4.out k (by omega)
          have hbb := hS b hbS
          have hbw := hbl.out
          rw [width_str] at hcelle
          have e0 : wr.cell? ⟨b, off + k, none⟩ = some (ce 0) := (hbw.cell (p := ⟨b, off + k, none⟩) (by show b < _; omega)).trans (by simpa using hcelle 0 (by omega))
          clear hcelle
          have hate := Lay.same hate (Same.of_below hbw hS)
          rw [at_str] at hate
          obtain ⟨ef, eef⟩ : ∃ f, os[k]'(by omega) = f := ⟨_, rfl⟩
          rw [eef] at hate
          obtain ⟨te0, ze0⟩ := hate
          rw [te0] at e0
          clear te0
          clear hbw
          have mA : Mc wr.drew m (addV (addU M us) (os.take k)) := hmp.out
          obtain ⟨st, w1, w3, he, m1, _, hst, m3, g3⟩ := mA.entry noT_size ze0 ((addV (addU M us) (os.take k)) noT ef + 1)
          have l0 := mA.look noT_size ze0
          have l1 := m1.look noT_size ze0
          have hcb := addV_bound (os.take k) _ _ HUB.out noT ef
          rw [List.length_take] at hcb
          have M3 : Hid (Mc w3 m (addV (addU M us) (os.take (k + 1)))) := by rw [addV_take _ _ k (by omega), eef]; exact m3
          have B3 : Hid (Below m w w3) := ((hbl.out).drew).grown g3 (by show m ≤ wr.heap.size; omega) (fun j hj => by cases hj; exact Nat.le_refl _)
          have hwl : w.heap.size < wr.heap.size := (Array.getElem?_eq_some_iff.1 hbx.out).1
          have X3 : Hid (w3.heap[w.heap.size]? = some (.cells #[x0, x1, x2, .slice o3 n3 k3, .slice (some ⟨b, off, none⟩) n4 k4, x5] 48)) := (g3.block w.heap.size (by show w.heap.size < wr.heap.size; omega) (fun e => by injection e with e; omega)).trans (hbx.out)
          clear m3 g3 m1 mA hmp hbl
          generalize (addV (addU M us) (os.take k)) noT ef = c0 at *
          go_wp2
          go_region
          go_wp2
          go_roundw
          case rel => exact ⟨k + 1, by omega, by go_num, M3.out, B3.out, X3.out⟩
          case measure => simp [intOf]; omega
        · have hkn4 : n4 = k := by omega
          subst hkn4
          have hf4 : os.take os.length = os := List.take_length
          have M2 : Hid (Mc wr m (addV (addU M us) os)) := by have := hmp.out; rw [← en4, hf4] at this; exact this
          go_wp2
          go_end0
          exact ⟨rfl, M2.out, hbl.out⟩

end Go.Proofs.YticojnepejboaacGreat
