/-
  The law FnExactShareFits, walked: whatever the book and the order, the call returns true, and nothing that was there before has turned.
-/
import Derived.Test.YtomfooddehddhacZmi
import Derived.Test.YtomfooddehddhacZxe
import Derived.Deep.RegionWith
namespace Go.Proofs.Ytomfooddehddhac
open Go.RowKit

theorem bookL_cs {S : Nat → Prop} {w : World} {T : List ByteArray} {Bs : List DShareBatch} {v0 v1 : Value} (h0 : AtL S w T v0) (h1 : AtL S w Bs v1) : Lay.At S w ((T, Bs) : DShareBook) (cs [v0, v1]) := at_DShareBook.2 ⟨h0, h1⟩

set_option maxRecDepth 100000 in
set_option maxHeartbeats 8000000 in
theorem lawf_any (PI : ∀ (S : Nat → Prop) (T : List ByteArray) (Bs : List DShareBatch) (o0 oa : Option Addr) (n0 k0 nb kb : Nat) (SO : Nat → Prop) (O : List ByteArray) (oo : Option Addr) (no ko : Nat) (w : World), AtL S w T (.slice o0 n0 k0) → AtL S w Bs (.slice oa nb kb) → (∀ b, S b → b < w.heap.size) → Lay.tot (α := DShareBook) (T, Bs) ≤ 1048576 → AtL SO w O (.slice oo no ko) → (∀ b, SO b → b < w.heap.size) → totL O ≤ 1048576 → Calls Try.prog 9 #[.agg #[.slice o0 n0 k0, .slice oa nb kb], .slice oo no ko] w fun e w' => e = .returned (.bool (fitsB (T, Bs) O)) ∧ Below w.heap.size w w') (S : Nat → Prop) (T : List ByteArray) (Bs : List DShareBatch) (c : Nat → Value) (O : List ByteArray) (v : Value) (w : World) (h : Lay.At S w ((T, Bs) : DShareBook) c) (hv : AtL S w O v) (hS : ∀ b, S b → b < w.heap.size) :
    Calls Try.prog 3 #[.agg #[c 0, c 1], v] w fun e w' => e = .returned (.bool true) ∧ Below w.heap.size w w' := by
  have H : Hid (∀ w', Below w.heap.size w w' → Lay.At S w' ((T, Bs) : DShareBook) c) := fun w' hb => Lay.same h (Same.of_below hb hS)
  have HV : Hid (∀ w', Below w.heap.size w w' → AtL S w' O v) := fun w' hb => hv.same (Same.of_below hb hS)
  clear h hv
  obtain ⟨w0, hw0⟩ : ∃ w0, w0 = w.alloc (.cells #[c 0, c 1] 25) := ⟨_, rfl⟩
  have EW : Hid (w0 = w.alloc (.cells #[c 0, c 1] 25)) := hw0
  have k0 : Hid (Below (w.heap.size + 1) (w.alloc (.cells #[c 0, c 1] 25)) w0) := by rw [hw0]; exact Below.refl _ _
  clear hw0
  have a0 := box_at _ _ k0.out 0 (c 0) rfl
  have a1 := box_at _ _ k0.out 1 (c 1) rfl
  have s0 : w.heap.size + 1 ≤ w0.heap.size := by have := k0.out.size; simpa using this
  obtain ⟨R, hR⟩ : ∃ R : Bool, R = fitsB (T, Bs) O := ⟨_, rfl⟩
  have HR : Hid (R = fitsB (T, Bs) O) := hR
  clear hR
  go_enter Try.func3, Try.ntmps3
  go_upto_region 1 with fail
  rw [← EW.out]
  go_wp2_with fail
  refine (szShareBook_any S (T, Bs) c 1048576 _ (H.out _ (below_end k0.out)) (fun b hb => by have := hS b hb; omega) (by omega) (by omega)).mono ?_
  rintro e w1 ⟨y, rfl, hy, hb1⟩
  clear a0 a1
  have k1 : Hid (Below (w.heap.size + 1) (w.alloc (.cells #[c 0, c 1] 25)) w1) := below_of k0.out hb1
  have HY : Hid _ := hy
  clear hy hb1
  by_cases hneg : y < 0
  · go_wp2_with fail
    go_ret
    exact ⟨rfl, below_end k1.out⟩
  have HM : Hid (Lay.tot (α := DShareBook) (T, Bs) ≤ 1048576) := by have := HY.out; show _ ≤ _; omega
  have hy1 : y ≤ 1048576 := by have := HY.out; omega
  have s1 : w.heap.size + 1 ≤ w1.heap.size := by have := k1.out.size; simpa using this
  go_wp2_with fail
  refine (szStringS_any S O v y _ (HV.out _ (below_end k1.out)) (fun b hb => by have := hS b hb; omega) (by omega) hy1).mono ?_
  rintro e w2 ⟨z, rfl, hz, hb1⟩
  have k2 : Hid (Below (w.heap.size + 1) (w.alloc (.cells #[c 0, c 1] 25)) w2) := below_of k1.out hb1
  have HZ : Hid _ := hz
  clear hz hb1
  by_cases hneg2 : z < 0
  · go_wp2_with fail
    go_ret
    exact ⟨rfl, below_end k2.out⟩
  have HMO : Hid (totL O ≤ 1048576) := by have := HZ.out; show _ ≤ _; omega
  clear hy1
  have a0 := box_at _ _ k2.out 0 (c 0) rfl
  have a1 := box_at _ _ k2.out 1 (c 1) rfl
  have s2 : w.heap.size + 1 ≤ w2.heap.size := by have := k2.out.size; simpa using this
  go_wp2_with fail
  refine (toShareBook_any S (T, Bs) c _ (H.out _ (below_end k2.out)) (fun b hb => by have := hS b hb; omega) HM.out).mono ?_
  rintro e w3 ⟨g3, rfl, G, hb⟩
  clear a0 a1
  have k3 : Hid (Below (w.heap.size + 1) (w.alloc (.cells #[c 0, c 1] 25)) w3) := below_of k2.out hb
  have s3 : w.heap.size + 1 ≤ w3.heap.size := by have := k3.out.size; simpa using this
  have G' := Lay.up (S' := fun b => b < w3.heap.size) G (fun b hb => hb.2)
  rw [at_DShareBook] at G'
  obtain ⟨l0, l1⟩ := G'
  clear G
  obtain ⟨n03, en⟩ : ∃ n, T.length = n := ⟨_, rfl⟩
  obtain ⟨o03, x03, e, _⟩ := id l0
  simp only at l0 e
  rw [en] at e
  rw [e] at l0
  rw [e]
  have L03 : Hid (AtL (fun b => b < w3.heap.size) w3 T (.slice o03 n03 x03)) := l0
  clear l0 e en
  obtain ⟨n13, en⟩ : ∃ n, Bs.length = n := ⟨_, rfl⟩
  obtain ⟨o13, x13, e, _⟩ := id l1
  simp only at l1 e
  rw [en] at e
  rw [e] at l1
  rw [e]
  have L13 : Hid (AtL (fun b => b < w3.heap.size) w3 Bs (.slice o13 n13 x13)) := l1
  clear l1 e en
  clear hb
  go_wp2_with fail
  refine (toStringS_any S O v _ (HV.out _ (below_end k3.out)) (fun b hb => by have := hS b hb; omega) HMO.out).mono ?_
  rintro e w4 ⟨r4, rfl, G, hb⟩
  have k4 : Hid (Below (w.heap.size + 1) (w.alloc (.cells #[c 0, c 1] 25)) w4) := below_of k3.out hb
  have s4 : w.heap.size + 1 ≤ w4.heap.size := by have := k4.out.size; simpa using this
  have G' := G.up (S' := fun b => b < w4.heap.size) (fun b hb => hb.2)
  obtain ⟨n4, en⟩ : ∃ n, O.length = n := ⟨_, rfl⟩
  obtain ⟨o4, x4, e, _⟩ := id G'
  rw [en] at e
  rw [e] at G'
  subst e
  have O4 : Hid (AtL (fun b => b < w4.heap.size) w4 O (.slice o4 n4 x4)) := G'
  clear G G' en
  have L04 : Hid (AtL (fun b => b < w4.heap.size) w4 T (.slice o03 n03 x03)) := (L03.out.same (Same.of_below hb (fun b hb => hb))).up (fun b hc => Nat.lt_of_lt_of_le hc hb.size)
  have L14 : Hid (AtL (fun b => b < w4.heap.size) w4 Bs (.slice o13 n13 x13)) := (L13.out.same (Same.of_below hb (fun b hb => hb))).up (fun b hc => Nat.lt_of_lt_of_le hc hb.size)
  clear hb L03 L13
  go_wp2_with fail
  refine (fitsZ_any (fun b => b < w4.heap.size) T Bs _ _ _ _ _ _ (fun b => b < w4.heap.size) O _ _ _ w4 L04.out L14.out (fun b hb => hb) O4.out (fun b hb => hb)).mono ?_; rintro e w5 ⟨rfl, hb⟩
  rw [← HR.out]
  have k5 : Hid (Below (w.heap.size + 1) (w.alloc (.cells #[c 0, c 1] 25)) w5) := below_of k4.out hb
  clear hb L04 L14 O4
  have a0 := box_at _ _ k5.out 0 (c 0) rfl
  have a1 := box_at _ _ k5.out 1 (c 1) rfl
  have s5 : w.heap.size + 1 ≤ w5.heap.size := by have := k5.out.size; simpa using this
  go_wp2_with fail
  refine (toShareBook_any S (T, Bs) c _ (H.out _ (below_end k5.out)) (fun b hb => by have := hS b hb; omega) HM.out).mono ?_
  rintro e w6 ⟨g6, rfl, G, hb⟩
  clear a0 a1
  have k6 : Hid (Below (w.heap.size + 1) (w.alloc (.cells #[c 0, c 1] 25)) w6) := below_of k5.out hb
  have s6 : w.heap.size + 1 ≤ w6.heap.size := by have := k6.out.size; simpa using this
  have G' := Lay.up (S' := fun b => b < w6.heap.size) G (fun b hb => hb.2)
  rw [at_DShareBook] at G'
  obtain ⟨l0, l1⟩ := G'
  clear G
  obtain ⟨n06, en⟩ : ∃ n, T.length = n := ⟨_, rfl⟩
  obtain ⟨o06, x06, e, _⟩ := id l0
  simp only at l0 e
  rw [en] at e
  rw [e] at l0
  rw [e]
  have L06 : Hid (AtL (fun b => b < w6.heap.size) w6 T (.slice o06 n06 x06)) := l0
  clear l0 e en
  obtain ⟨n16, en⟩ : ∃ n, Bs.length = n := ⟨_, rfl⟩
  obtain ⟨o16, x16, e, _⟩ := id l1
  simp only at l1 e
  rw [en] at e
  rw [e] at l1
  rw [e]
  have L16 : Hid (AtL (fun b => b < w6.heap.size) w6 Bs (.slice o16 n16 x16)) := l1
  clear l1 e en
  clear hb
  obtain ⟨W7, hW7⟩ : ∃ W7, W7 = w6.alloc (.cells #[.slice o06 n06 x06, .slice o16 n16 x16] 31) := ⟨_, rfl⟩
  have EW7 : Hid (W7 = w6.alloc (.cells #[.slice o06 n06 x06, .slice o16 n16 x16] 31)) := hW7
  have bA : Below w6.heap.size w6 W7 := by rw [hW7]; exact (Below.refl _ _).alloc (Nat.le_refl _) _
  have RW7 : Hid (W7.heap[w6.heap.size]? = some (.cells #[.slice o06 n06 x06, .slice o16 n16 x16] 31 (0, 0))) := by rw [hW7]; exact heap_alloc_new w6 _
  have t7 : w6.heap.size + 1 ≤ W7.heap.size := by rw [hW7]; simp
  clear hW7
  have kA : Hid (Below (w.heap.size + 1) (w.alloc (.cells #[c 0, c 1] 25)) W7) := below_of k6.out bA
  have BA : Hid (Below w6.heap.size w6 W7) := bA
  clear bA
  go_wp2_with fail
  rw [← EW7.out]
  refine (toStringS_any S O v _ (HV.out _ (below_end kA.out)) (fun b hb => by have := hS b hb; omega) HMO.out).mono ?_
  rintro e w8 ⟨r8, rfl, G, hb⟩
  have k8 : Hid (Below (w.heap.size + 1) (w.alloc (.cells #[c 0, c 1] 25)) w8) := below_of kA.out hb
  have s8 : w.heap.size + 1 ≤ w8.heap.size := by have := k8.out.size; simpa using this
  have G' := G.up (S' := fun b => b < w8.heap.size) (fun b hb => hb.2)
  obtain ⟨n8, en⟩ : ∃ n, O.length = n := ⟨_, rfl⟩
  obtain ⟨o8, x8, e, _⟩ := id G'
  rw [en] at e
  rw [e] at G'
  subst e
  have O8 : Hid (AtL (fun b => b < w8.heap.size) w8 O (.slice o8 n8 x8)) := G'
  clear G G' en
  have B68 : Hid (Below w6.heap.size w6 w8) := BA.out.trans (hb.mono (by omega))
  have d0 := (hb.cell (p := ⟨w6.heap.size, 0, none⟩) (by show w6.heap.size < W7.heap.size; omega)).trans ((cell_row RW7.out 0 (.slice o06 n06 x06) rfl).1)
  have d1 := (hb.cell (p := ⟨w6.heap.size, 1, none⟩) (by show w6.heap.size < W7.heap.size; omega)).trans ((cell_row RW7.out 1 (.slice o16 n16 x16) rfl).1)
  have t8 : w6.heap.size + 1 ≤ w8.heap.size := by have := hb.size; omega
  clear hb
  go_wp2_with fail
  refine (PI (fun b => b < w6.heap.size) T Bs _ _ _ _ _ _ (fun b => b < w8.heap.size) O _ _ _ w8 (L06.out.same (Same.of_below B68.out (fun b hb => hb))) (L16.out.same (Same.of_below B68.out (fun b hb => hb))) (fun b hb => by omega) HM.out O8.out (fun b hb => hb) HMO.out).mono ?_
  rintro e w9 ⟨rfl, hb⟩
  rw [← HR.out]
  have k9 : Hid (Below (w.heap.size + 1) (w.alloc (.cells #[c 0, c 1] 25)) w9) := below_of k8.out hb
  have a0 := box_at _ _ k9.out 0 (c 0) rfl
  have a1 := box_at _ _ k9.out 1 (c 1) rfl
  have s9 : w.heap.size + 1 ≤ w9.heap.size := by have := k9.out.size; simpa using this
  have B69 : Hid (Below w6.heap.size w6 w9) := B68.out.trans (hb.mono (by omega))
  have B89 : Hid (Below w8.heap.size w8 w9) := hb
  have e0 := (hb.cell (p := ⟨w6.heap.size, 0, none⟩) (by show w6.heap.size < w8.heap.size; omega)).trans d0
  have e1 := (hb.cell (p := ⟨w6.heap.size, 1, none⟩) (by show w6.heap.size < w8.heap.size; omega)).trans d1
  have t9 : w8.heap.size ≤ w9.heap.size := hb.size
  clear hb d0 d1
  cases R
  all_goals
    go_wp2_with fail
    go_region_with (first
      | (go_at_call 7; refine (toShareBook_any S (T, Bs) c _ (by exact H.out _ (below_end k9.out).drew) (fun b hb => by show b < w9.heap.size; have := hS b hb; omega) HM.out).mono ?_; rintro e w10 ⟨r, rfl, G6, hb6⟩; have HG6 : Hid (Lay.At (fun b => w9.heap.size ≤ b ∧ b < w10.heap.size) w10 (T, Bs) r) := G6; clear G6; have s10 : w9.heap.size ≤ w10.heap.size := hb6.size; have g0 := (hb6.cell (p := ⟨w6.heap.size, 0, none⟩) (by show w6.heap.size < w9.heap.size; omega)).trans e0; have g1 := (hb6.cell (p := ⟨w6.heap.size, 1, none⟩) (by show w6.heap.size < w9.heap.size; omega)).trans e1; have B910 : Hid (Below w9.heap.size w9 w10) := ((Below.refl _ _).drew).trans (hb6.mono (by show w9.heap.size ≤ w9.heap.size; omega)))
      | (go_at_call 10; refine (eqShareBook_any (fun b => b < w6.heap.size) (fun b => w9.heap.size ≤ b ∧ b < w10.heap.size) (T, Bs) (cs [.slice o06 n06 x06, .slice o16 n16 x16]) r _ (Lay.same (bookL_cs L06.out L16.out) (Same.of_below (B69.out.trans (B910.out.mono (by omega))) (fun b hb => hb))) HG6.out (fun b hb => by omega) (fun b hb => hb.2)).mono ?_; rintro e w11 ⟨rfl, hb7⟩; have s11 : w10.heap.size ≤ w11.heap.size := hb7.size; have B911 : Hid (Below w9.heap.size w9 w11) := B910.out.trans (hb7.mono (by omega))))
    all_goals
      clear HG6 hb7 hb6
      have k11 : Hid (Below (w.heap.size + 1) (w.alloc (.cells #[c 0, c 1] 25)) w11) := below_of k9.out B911.out
      go_wp2_with fail
      refine (toStringS_any S O v _ (HV.out _ (below_end k11.out)) (fun b hb => by have := hS b hb; omega) HMO.out).mono ?_
      rintro e w12 ⟨r12, rfl, G, hb⟩
      have k12 : Hid (Below (w.heap.size + 1) (w.alloc (.cells #[c 0, c 1] 25)) w12) := below_of k11.out hb
      have B812 : Hid (Below w8.heap.size w8 w12) := B89.out.trans ((B911.out.trans (hb.mono (by omega))).mono (by omega))
      have HG12 : Hid (AtL (fun b => w11.heap.size ≤ b ∧ b < w12.heap.size) w12 O r12) := G
      have t12 : w11.heap.size ≤ w12.heap.size := hb.size
      clear G hb
      go_wp2_with fail
      refine (eqStringS_any (fun b => b < w8.heap.size) _ O _ _ _ (O8.out.same (Same.of_below B812.out (fun b hb => hb))) HG12.out (fun b hb => by omega) (fun b hb => hb.2)).mono ?_
      rintro e w13 ⟨rfl, hb13⟩
      have k13 : Hid (Below (w.heap.size + 1) (w.alloc (.cells #[c 0, c 1] 25)) w13) := below_of k12.out hb13
      clear hb13
      go_wp2_with fail
      go_ret
      exact ⟨rfl, below_end k13.out⟩

end Go.Proofs.Ytomfooddehddhac
