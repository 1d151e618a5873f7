/-
  The law FnExactClaimStop, walked: whatever the book and the number, the call returns true, and nothing that was there before has turned.
-/
import Derived.Test.YticojnepejboaacGreatGv
import Derived.Test.YticojnepejboaacGreatCbh
import Derived.Test.YticojnepejboaacGreatCbe
import Derived.Test.YticojnepejboaacGreatCbk
import Derived.Test.YticojnepejboaacGreatCbs
import Derived.Deep.RegionWith
namespace Go.Proofs.YticojnepejboaacGreat
open Go.RowKit

theorem toClaimBook_any (S : Nat → Prop) (a : DClaimBook) (c : Nat → Value) (w : World) (h : Lay.At S w a c) (hS : ∀ b, S b → b < w.heap.size) (hm : Lay.tot a ≤ 1048576) :
    Calls Tryz.prog 6 #[.agg #[c 0, c 1, c 2, c 3, c 4]] w fun e w' => ∃ g : Nat → Value, e = .returned (.agg #[g 0, g 1, g 2, g 3, g 4]) ∧ Lay.At (fun b => w.heap.size ≤ b ∧ b < w'.heap.size) w' a g ∧ Below w.heap.size w w' :=
  (toClaimBook_own S a c w h hS hm).mono fun _ _ ⟨g, he, ho, hb⟩ => ⟨g, he, Own.on_at ho, hb⟩
/-- How many marks a list takes, at most. -/
theorem cntL_le {α : Type} [Own α] (K : Nat) : ∀ l : List α, (∀ x ∈ l, Own.cnt x ≤ K * (Lay.tot x + 1)) → cntL l ≤ K * totL l
  | [], _ => by simp [cntL, cntTo]
  | x :: l, h => by
    have h1 := h x List.mem_cons_self
    have h2 := cntL_le K l (fun y hy => h y (List.mem_cons_of_mem _ hy))
    have e1 : cntL (x :: l) = Own.cnt x + cntL l := by simp [cntL, cntTo]
    have e2 : totL (x :: l) = (Lay.tot x + 1) + totL l := by simp [totL, sumTo]; omega
    rw [e1, e2, Nat.mul_add]
    omega
theorem cntL_strs (l : List ByteArray) : cntL l ≤ totL l := by
  have := cntL_le 1 l (fun x _ => by show 1 ≤ 1 * (x.size + 1); omega)
  omega
theorem cntL_uses (l : List DClaimUse) : cntL l ≤ 3 * totL l := cntL_le 3 l (fun x _ => by rw [cnt_DClaimUse]; omega)
/-- The lists of a book. -/
def lists4 (a : DClaimBook) : DClaimBookL := (a.1, a.2.1, a.2.2.1, a.2.2.2.1)
theorem cnt_lists {a : DClaimBook} (h : Lay.tot a ≤ 1048576) : Own.cnt (lists4 a) ≤ 4194304 := by
  have h0 : cntL a.1 ≤ 4 * totL a.1 := cntL_le 4 a.1 (fun x _ => by rw [cnt_DClaimFoe]; omega)
  have h1 : cntL a.2.1 ≤ 4 * totL a.2.1 := cntL_le 4 a.2.1 (fun x _ => by
    rw [cnt_DClaimSpot, tot_DClaimSpot]
    have q1 := cntL_strs x.2.2.2.2
    omega)
  have h2 : cntL a.2.2.1 ≤ totL a.2.2.1 := cntL_strs _
  have h3 : cntL a.2.2.2.1 ≤ 4 * totL a.2.2.2.1 := cntL_le 4 a.2.2.2.1 (fun x _ => by
    rw [cnt_DClaimPart, tot_DClaimPart]
    have q1 := cntL_strs x.2.2.1
    have q2 := cntL_uses x.2.2.2.1
    have q3 := cntL_strs x.2.2.2.2.1
    have q4 := cntL_strs x.2.2.2.2.2.1
    omega)
  rw [tot_DClaimBook] at h
  rw [cnt_DClaimBookL]
  show cntL a.1 + (cntL a.2.1 + (cntL a.2.2.1 + cntL a.2.2.2.1)) ≤ _
  omega
theorem on_lists {S : Nat → Prop} {w : World} {a : DClaimBook} {c : Nat → Value} (h : Own.On S w a c) : Own.On S w (lists4 a) c := by
  obtain ⟨A0, B0, p0, q0, H0, A1, B1, p1, q1, H1, A2, B2, p2, q2, H2, A3, B3, p3, q3, H3, _⟩ := on_DClaimBook.1 h
  exact on_DClaimBookL.2 ⟨A0, B0, p0, q0, H0, A1, B1, p1, q1, H1, A2, B2, p2, q2, H2, H3.up (fun b hb => (p3 b hb).1)⟩
theorem totL_modify (f : DClaimPart → DClaimPart) (hf : ∀ y, Lay.tot (f y) = Lay.tot y) : ∀ (l : List DClaimPart) (k : Nat), totL (l.modify k f) = totL l
  | [], k => by cases k <;> rfl
  | y :: l, 0 => by
    have e1 : totL (f y :: l) = (Lay.tot (f y) + 1) + totL l := by simp [totL, sumTo]; omega
    have e2 : totL (y :: l) = (Lay.tot y + 1) + totL l := by simp [totL, sumTo]; omega
    show totL (f y :: l) = _
    rw [e1, e2, hf]
  | y :: l, k + 1 => by
    have e1 : totL (y :: l.modify k f) = (Lay.tot y + 1) + totL (l.modify k f) := by simp [totL, sumTo]; omega
    have e2 : totL (y :: l) = (Lay.tot y + 1) + totL l := by simp [totL, sumTo]; omega
    show totL (y :: l.modify k f) = _
    rw [e1, e2, totL_modify f hf l k]
theorem tot_stop {a : DClaimBook} {x : Int} (h : Lay.tot a ≤ 1048576) : Lay.tot (stopB a x) ≤ 1048576 := by
  unfold stopB
  split
  · split
    · exact h
    · rw [tot_DClaimBook] at h ⊢
      unfold stopAt
      simp only
      rw [totL_modify _ (fun y => by rw [tot_DClaimPart, tot_DClaimPart])]
      exact h
  · show (0 : Nat) + (0 + (0 + (0 + 0))) ≤ 1048576
    decide

set_option maxRecDepth 100000 in
set_option maxHeartbeats 16000000 in
theorem law_any (S : Nat → Prop) (a : DClaimBook) (c : Nat → Value) (x : Int) (w : World) (h : Lay.At S w a c) (hS : ∀ b, S b → b < w.heap.size) :
    Calls Tryz.prog 3 #[.agg #[c 0, c 1, c 2, c 3, c 4], .int .i64 x] w fun e w' => e = .returned (.bool true) ∧ Below w.heap.size w w' := by
  have H : Hid (∀ w', Below w.heap.size w w' → Lay.At S w' a c) := fun w' hb => Lay.same h (Same.of_below hb hS)
  clear h
  obtain ⟨R, hR⟩ : ∃ R, stopB a x = R := ⟨_, rfl⟩
  obtain ⟨cd, hcd⟩ : ∃ n, stopC a x = n := ⟨_, rfl⟩
  have HRT : Hid (Lay.tot a ≤ 1048576 → Lay.tot R ≤ 1048576) := by rw [← hR]; exact tot_stop
  have CC : Hid (∀ (S : Nat → Prop) (c : Nat → Value) (w : World), Lay.At S w a c → (∀ b, S b → b < w.heap.size) → Lay.tot a ≤ 1048576 → Calls Tryz.prog 5 #[.agg #[c 0, c 1, c 2, c 3, c 4], .int .i64 x] w fun e w' => ∃ g : Nat → Value, e = .returned (.tuple #[.agg #[g 0, g 1, g 2, g 3, g 4], .int .i64 cd]) ∧ Own.On (fun b => w.heap.size ≤ b ∧ b < w'.heap.size) w' R g ∧ Below w.heap.size w w') := by rw [← hR, ← hcd]; exact fun S c w h1 h2 h3 => stopS_any S a c x w h1 h2 h3
  have CI : Hid (∀ (S : Nat → Prop) (c : Nat → Value) (w : World), Lay.At S w a c → (∀ b, S b → b < w.heap.size) → Lay.tot a ≤ 1048576 → Calls Tryz.prog 7 #[.agg #[c 0, c 1, c 2, c 3, c 4], .int .i64 x] w fun e w' => ∃ g : Nat → Value, e = .returned (.tuple #[.agg #[g 0, g 1, g 2, g 3, g 4], .int .i64 cd]) ∧ Own.On (fun b => w.heap.size ≤ b ∧ b < w'.heap.size) w' R g ∧ Below w.heap.size w w') := by rw [← hR, ← hcd]; exact fun S c w h1 h2 h3 => stopI_any S a c x w h1 h2 h3
  clear hR hcd
  have xcd : ((cd : Int) == cd) = true := by simp
  obtain ⟨w0, h'⟩ : ∃ V, V = (w.alloc (.cells #[c 0, c 1, c 2, c 3, c 4] 27)) := ⟨_, rfl⟩
  have HU : Hid (w0 = (w.alloc (.cells #[c 0, c 1, c 2, c 3, c 4] 27))) := h'
  have K0 : Hid (Below w.heap.size w w0) := by rw [h']; exact (Below.refl _ _).alloc (Nat.le_refl _) _
  have zw0 : w.heap.size + 1 ≤ w0.heap.size := by rw [h']; simp
  have B_c : Hid (w0.heap[w.heap.size]? = some (.cells #[c 0, c 1, c 2, c 3, c 4] 27 (0, 0))) := by rw [h']; exact heap_alloc_new w _
  clear h'
  go_enter Tryz.func3, Tryz.ntmps3
  go_upto_region 2 with fail
  rw [← HU.out]
  clear HU
  obtain ⟨y0, _⟩ := cell_row B_c.out 0 _ rfl
  obtain ⟨y1, _⟩ := cell_row B_c.out 1 _ rfl
  obtain ⟨y2, _⟩ := cell_row B_c.out 2 _ rfl
  obtain ⟨y3, _⟩ := cell_row B_c.out 3 _ rfl
  obtain ⟨y4, _⟩ := cell_row B_c.out 4 _ rfl
  simp only [List.getElem_toArray, List.getElem_cons_zero, List.getElem_cons_succ] at y0 y1 y2 y3 y4
  go_wp2_with fail
  refine (szClaimBook_any S a c 1048576 _ (H.out _ K0.out) (fun b hb => by have := hS b hb; omega) (by omega) (by omega)).mono ?_
  rintro e w1 ⟨y, rfl, hy, hb1⟩
  have HY : Hid _ := hy
  have s1 := hb1.size
  have K1 : Hid (Below w.heap.size w w1) := K0.out.trans (hb1.mono (by omega))
  clear hy
  have B_c : Hid (w1.heap[w.heap.size]? = some (.cells #[c 0, c 1, c 2, c 3, c 4] 27 (0, 0))) := box_stable hb1 B_c.out
  clear hb1
  clear y0 y1 y2 y3 y4
  by_cases hneg : y < 0
  · go_wp2_with fail
    go_ret
    exact ⟨rfl, K1.out⟩
  have HM : Hid (Lay.tot a ≤ 1048576) := by have := HY.out; show _ ≤ _; omega
  clear HY
  obtain ⟨y0, _⟩ := cell_row B_c.out 0 _ rfl
  obtain ⟨y1, _⟩ := cell_row B_c.out 1 _ rfl
  obtain ⟨y2, _⟩ := cell_row B_c.out 2 _ rfl
  obtain ⟨y3, _⟩ := cell_row B_c.out 3 _ rfl
  obtain ⟨y4, _⟩ := cell_row B_c.out 4 _ rfl
  simp only [List.getElem_toArray, List.getElem_cons_zero, List.getElem_cons_succ] at y0 y1 y2 y3 y4
  go_wp2_with fail
  refine (toClaimBook_any S a c w1 (H.out _ K1.out) (fun b hb => by have := hS b hb; omega) HM.out).mono ?_
  rintro e u2 ⟨g, rfl, G, hb2⟩
  have s2 := hb2.size
  have K2 : Hid (Below w.heap.size w u2) := K1.out.trans (hb2.mono (by omega))
  have B_c : Hid (u2.heap[w.heap.size]? = some (.cells #[c 0, c 1, c 2, c 3, c 4] 27 (0, 0))) := box_stable hb2 B_c.out
  clear y0 y1 y2 y3 y4
  have CC1 : Hid _ := CC.out _ g u2 G (fun b hb => hb.2) HM.out
  clear G hb2
  go_wp2_with fail
  refine Calls.mono CC1.out ?_
  rintro e u3 ⟨r, rfl, hr, hb3⟩
  clear CC1
  have s3 := hb3.size
  have K3 : Hid (Below w.heap.size w u3) := K2.out.trans (hb3.mono (by omega))
  have B_c : Hid (u3.heap[w.heap.size]? = some (.cells #[c 0, c 1, c 2, c 3, c 4] 27 (0, 0))) := box_stable hb3 B_c.out
  clear hb3
  obtain ⟨d0, d1, d2, d3, ⟨ge4, _⟩⟩ := at_DClaimBook.1 (Own.on_at hr)
  obtain ⟨ro0, rk0, ge0, _⟩ := d0
  obtain ⟨rn0, ern0⟩ : ∃ n, R.1.length = n := ⟨_, rfl⟩
  have Ern0 : Hid (R.1.length = rn0) := ern0
  clear ern0
  rw [Ern0.out] at ge0
  obtain ⟨ro1, rk1, ge1, _⟩ := d1
  obtain ⟨rn1, ern1⟩ : ∃ n, R.2.1.length = n := ⟨_, rfl⟩
  have Ern1 : Hid (R.2.1.length = rn1) := ern1
  clear ern1
  rw [Ern1.out] at ge1
  obtain ⟨ro2, rk2, ge2, _⟩ := d2
  obtain ⟨rn2, ern2⟩ : ∃ n, R.2.2.1.length = n := ⟨_, rfl⟩
  have Ern2 : Hid (R.2.2.1.length = rn2) := ern2
  clear ern2
  rw [Ern2.out] at ge2
  obtain ⟨ro3, rk3, ge3, _⟩ := d3
  obtain ⟨rn3, ern3⟩ : ∃ n, R.2.2.2.1.length = n := ⟨_, rfl⟩
  have Ern3 : Hid (R.2.2.2.1.length = rn3) := ern3
  clear ern3
  rw [Ern3.out] at ge3
  rw [ge0, ge1, ge2, ge3, ge4]
  have D0 : Hid (Own.On (fun b => u2.heap.size ≤ b ∧ b < u3.heap.size) u3 R (cs [.slice ro0 rn0 rk0, .slice ro1 rn1 rk1, .slice ro2 rn2 rk2, .slice ro3 rn3 rk3, .int .i64 R.2.2.2.2])) := Own.on_ext hr (fun j hj => by rw [width_DClaimBook] at hj; rcases (show j = 0 ∨ j = 1 ∨ j = 2 ∨ j = 3 ∨ j = 4 by omega) with rfl | rfl | rfl | rfl | rfl <;> first | exact ge0.symm | exact ge1.symm | exact ge2.symm | exact ge3.symm | exact ge4.symm)
  clear hr ge0 ge1 ge2 ge3 ge4
  obtain ⟨V3, h'⟩ : ∃ V, V = u3.alloc (.cells #[.slice ro0 rn0 rk0, .slice ro1 rn1 rk1, .slice ro2 rn2 rk2, .slice ro3 rn3 rk3, .int .i64 R.2.2.2.2] 33) := ⟨_, rfl⟩
  have HU : Hid (V3 = u3.alloc (.cells #[.slice ro0 rn0 rk0, .slice ro1 rn1 rk1, .slice ro2 rn2 rk2, .slice ro3 rn3 rk3, .int .i64 R.2.2.2.2] 33)) := h'
  have bU : Below u3.heap.size u3 V3 := by rw [h']; exact (Below.refl _ _).alloc (Nat.le_refl _) _
  have zV3 : V3.heap.size ≤ u3.heap.size + 1 ∧ u3.heap.size + 1 ≤ V3.heap.size := by rw [h']; simp
  have nB : Hid (V3.heap[u3.heap.size]? = some (.cells #[.slice ro0 rn0 rk0, .slice ro1 rn1 rk1, .slice ro2 rn2 rk2, .slice ro3 rn3 rk3, .int .i64 R.2.2.2.2] 33 (0, 0))) := by rw [h']; exact heap_alloc_new u3 _
  clear h'
  have B_c : Hid (V3.heap[w.heap.size]? = some (.cells #[c 0, c 1, c 2, c 3, c 4] 27 (0, 0))) := box_stable bU B_c.out
  have B_r : Hid _ := nB
  have K3b : Hid (Below w.heap.size w V3) := K3.out.trans (bU.mono (by omega))
  have D0 : Hid _ := Own.on_same D0.out (Same.of_below bU (fun b hb => hb.2))
  clear bU
  go_upto_region 6 with fail
  rw [← HU.out]
  clear HU
  obtain ⟨y0, _⟩ := cell_row B_c.out 0 _ rfl
  obtain ⟨y1, _⟩ := cell_row B_c.out 1 _ rfl
  obtain ⟨y2, _⟩ := cell_row B_c.out 2 _ rfl
  obtain ⟨y3, _⟩ := cell_row B_c.out 3 _ rfl
  obtain ⟨y4, _⟩ := cell_row B_c.out 4 _ rfl
  simp only [List.getElem_toArray, List.getElem_cons_zero, List.getElem_cons_succ] at y0 y1 y2 y3 y4
  go_wp2_with fail
  refine (toClaimBook_own S a c V3 (H.out _ K3b.out) (fun b hb => by have := hS b hb; omega) HM.out).mono ?_
  rintro e u4 ⟨g4, rfl, hr, hb4⟩
  have s4 := hb4.size
  have K4 : Hid (Below w.heap.size w u4) := K3b.out.trans (hb4.mono (by omega))
  have D0 : Hid _ := Own.on_same D0.out (Same.of_below hb4 (fun b hb => by omega))
  have B_c : Hid (u4.heap[w.heap.size]? = some (.cells #[c 0, c 1, c 2, c 3, c 4] 27 (0, 0))) := box_stable hb4 B_c.out
  have B_r : Hid (u4.heap[u3.heap.size]? = some (.cells #[.slice ro0 rn0 rk0, .slice ro1 rn1 rk1, .slice ro2 rn2 rk2, .slice ro3 rn3 rk3, .int .i64 R.2.2.2.2] 33 (0, 0))) := box_stable hb4 B_r.out
  clear hb4
  clear y0 y1 y2 y3 y4
  obtain ⟨d0, d1, d2, d3, ⟨ge4, _⟩⟩ := at_DClaimBook.1 (Own.on_at hr)
  obtain ⟨o0, x0, ge0, _⟩ := d0
  obtain ⟨n0, en0⟩ : ∃ n, a.1.length = n := ⟨_, rfl⟩
  have En0 : Hid (a.1.length = n0) := en0
  clear en0
  rw [En0.out] at ge0
  obtain ⟨o1, x1, ge1, _⟩ := d1
  obtain ⟨n1, en1⟩ : ∃ n, a.2.1.length = n := ⟨_, rfl⟩
  have En1 : Hid (a.2.1.length = n1) := en1
  clear en1
  rw [En1.out] at ge1
  obtain ⟨o2, x2, ge2, _⟩ := d2
  obtain ⟨n2, en2⟩ : ∃ n, a.2.2.1.length = n := ⟨_, rfl⟩
  have En2 : Hid (a.2.2.1.length = n2) := en2
  clear en2
  rw [En2.out] at ge2
  obtain ⟨o3, x3, ge3, _⟩ := d3
  obtain ⟨n3, en3⟩ : ∃ n, a.2.2.2.1.length = n := ⟨_, rfl⟩
  have En3 : Hid (a.2.2.2.1.length = n3) := en3
  clear en3
  rw [En3.out] at ge3
  rw [ge0, ge1, ge2, ge3, ge4]
  have D4 : Hid (Own.On (fun b => V3.heap.size ≤ b ∧ b < u4.heap.size) u4 a (cs [.slice o0 n0 x0, .slice o1 n1 x1, .slice o2 n2 x2, .slice o3 n3 x3, .int .i64 a.2.2.2.2])) := Own.on_ext hr (fun j hj => by rw [width_DClaimBook] at hj; rcases (show j = 0 ∨ j = 1 ∨ j = 2 ∨ j = 3 ∨ j = 4 by omega) with rfl | rfl | rfl | rfl | rfl <;> first | exact ge0.symm | exact ge1.symm | exact ge2.symm | exact ge3.symm | exact ge4.symm)
  clear hr ge0 ge1 ge2 ge3 ge4
  obtain ⟨V4, h'⟩ : ∃ V, V = u4.alloc (.cells #[.slice o0 n0 x0, .slice o1 n1 x1, .slice o2 n2 x2, .slice o3 n3 x3, .int .i64 a.2.2.2.2] 33) := ⟨_, rfl⟩
  have HU : Hid (V4 = u4.alloc (.cells #[.slice o0 n0 x0, .slice o1 n1 x1, .slice o2 n2 x2, .slice o3 n3 x3, .int .i64 a.2.2.2.2] 33)) := h'
  have bU : Below u4.heap.size u4 V4 := by rw [h']; exact (Below.refl _ _).alloc (Nat.le_refl _) _
  have zV4 : V4.heap.size ≤ u4.heap.size + 1 ∧ u4.heap.size + 1 ≤ V4.heap.size := by rw [h']; simp
  have nB : Hid (V4.heap[u4.heap.size]? = some (.cells #[.slice o0 n0 x0, .slice o1 n1 x1, .slice o2 n2 x2, .slice o3 n3 x3, .int .i64 a.2.2.2.2] 33 (0, 0))) := by rw [h']; exact heap_alloc_new u4 _
  clear h'
  have B_c : Hid (V4.heap[w.heap.size]? = some (.cells #[c 0, c 1, c 2, c 3, c 4] 27 (0, 0))) := box_stable bU B_c.out
  have B_r : Hid (V4.heap[u3.heap.size]? = some (.cells #[.slice ro0 rn0 rk0, .slice ro1 rn1 rk1, .slice ro2 rn2 rk2, .slice ro3 rn3 rk3, .int .i64 R.2.2.2.2] 33 (0, 0))) := box_stable bU B_r.out
  have B_x : Hid _ := nB
  have K4b : Hid (Below w.heap.size w V4) := K4.out.trans (bU.mono (by omega))
  have D0 : Hid _ := Own.on_same D0.out (Same.of_below bU (fun b hb => by omega))
  have D4 : Hid _ := Own.on_same D4.out (Same.of_below bU (fun b hb => hb.2))
  clear bU
  go_upto_region 7 with fail
  rw [← HU.out]
  clear HU
  obtain ⟨y0, _⟩ := cell_row B_x.out 0 _ rfl
  obtain ⟨y1, _⟩ := cell_row B_x.out 1 _ rfl
  obtain ⟨y2, _⟩ := cell_row B_x.out 2 _ rfl
  obtain ⟨y3, _⟩ := cell_row B_x.out 3 _ rfl
  obtain ⟨y4, _⟩ := cell_row B_x.out 4 _ rfl
  simp only [List.getElem_toArray, List.getElem_cons_zero, List.getElem_cons_succ] at y0 y1 y2 y3 y4
  have CI1 : Hid (Calls Tryz.prog 7 #[.agg #[.slice o0 n0 x0, .slice o1 n1 x1, .slice o2 n2 x2, .slice o3 n3 x3, .int .i64 a.2.2.2.2], .int .i64 x] V4 _) := CI.out _ (cs [.slice o0 n0 x0, .slice o1 n1 x1, .slice o2 n2 x2, .slice o3 n3 x3, .int .i64 a.2.2.2.2]) V4 (Own.on_at D4.out) (fun b hb => by omega) HM.out
  go_wp2_with fail
  refine Calls.mono CI1.out ?_
  rintro e u5 ⟨s, rfl, hr, hb5⟩
  clear CI1
  have s5 := hb5.size
  have K5 : Hid (Below w.heap.size w u5) := K4b.out.trans (hb5.mono (by omega))
  have D0 : Hid _ := Own.on_same D0.out (Same.of_below hb5 (fun b hb => by omega))
  have D4 : Hid _ := Own.on_same D4.out (Same.of_below hb5 (fun b hb => by omega))
  have B_c : Hid (u5.heap[w.heap.size]? = some (.cells #[c 0, c 1, c 2, c 3, c 4] 27 (0, 0))) := box_stable hb5 B_c.out
  have B_r : Hid (u5.heap[u3.heap.size]? = some (.cells #[.slice ro0 rn0 rk0, .slice ro1 rn1 rk1, .slice ro2 rn2 rk2, .slice ro3 rn3 rk3, .int .i64 R.2.2.2.2] 33 (0, 0))) := box_stable hb5 B_r.out
  have B_x : Hid (u5.heap[u4.heap.size]? = some (.cells #[.slice o0 n0 x0, .slice o1 n1 x1, .slice o2 n2 x2, .slice o3 n3 x3, .int .i64 a.2.2.2.2] 33 (0, 0))) := box_stable hb5 B_x.out
  clear hb5
  clear y0 y1 y2 y3 y4
  obtain ⟨d0, d1, d2, d3, ⟨ge4, _⟩⟩ := at_DClaimBook.1 (Own.on_at hr)
  obtain ⟨so0, sk0, ge0, _⟩ := d0
  rw [Ern0.out] at ge0
  obtain ⟨so1, sk1, ge1, _⟩ := d1
  rw [Ern1.out] at ge1
  obtain ⟨so2, sk2, ge2, _⟩ := d2
  rw [Ern2.out] at ge2
  obtain ⟨so3, sk3, ge3, _⟩ := d3
  rw [Ern3.out] at ge3
  rw [ge0, ge1, ge2, ge3, ge4]
  have D5 : Hid (Own.On (fun b => V4.heap.size ≤ b ∧ b < u5.heap.size) u5 R (cs [.slice so0 rn0 sk0, .slice so1 rn1 sk1, .slice so2 rn2 sk2, .slice so3 rn3 sk3, .int .i64 R.2.2.2.2])) := Own.on_ext hr (fun j hj => by rw [width_DClaimBook] at hj; rcases (show j = 0 ∨ j = 1 ∨ j = 2 ∨ j = 3 ∨ j = 4 by omega) with rfl | rfl | rfl | rfl | rfl <;> first | exact ge0.symm | exact ge1.symm | exact ge2.symm | exact ge3.symm | exact ge4.symm)
  clear hr ge0 ge1 ge2 ge3 ge4
  obtain ⟨V5, h'⟩ : ∃ V, V = u5.alloc (.cells #[.slice so0 rn0 sk0, .slice so1 rn1 sk1, .slice so2 rn2 sk2, .slice so3 rn3 sk3, .int .i64 R.2.2.2.2] 33) := ⟨_, rfl⟩
  have HU : Hid (V5 = u5.alloc (.cells #[.slice so0 rn0 sk0, .slice so1 rn1 sk1, .slice so2 rn2 sk2, .slice so3 rn3 sk3, .int .i64 R.2.2.2.2] 33)) := h'
  have bU : Below u5.heap.size u5 V5 := by rw [h']; exact (Below.refl _ _).alloc (Nat.le_refl _) _
  have zV5 : V5.heap.size ≤ u5.heap.size + 1 ∧ u5.heap.size + 1 ≤ V5.heap.size := by rw [h']; simp
  have nB : Hid (V5.heap[u5.heap.size]? = some (.cells #[.slice so0 rn0 sk0, .slice so1 rn1 sk1, .slice so2 rn2 sk2, .slice so3 rn3 sk3, .int .i64 R.2.2.2.2] 33 (0, 0))) := by rw [h']; exact heap_alloc_new u5 _
  clear h'
  have B_c : Hid (V5.heap[w.heap.size]? = some (.cells #[c 0, c 1, c 2, c 3, c 4] 27 (0, 0))) := box_stable bU B_c.out
  have B_r : Hid (V5.heap[u3.heap.size]? = some (.cells #[.slice ro0 rn0 rk0, .slice ro1 rn1 rk1, .slice ro2 rn2 rk2, .slice ro3 rn3 rk3, .int .i64 R.2.2.2.2] 33 (0, 0))) := box_stable bU B_r.out
  have B_x : Hid (V5.heap[u4.heap.size]? = some (.cells #[.slice o0 n0 x0, .slice o1 n1 x1, .slice o2 n2 x2, .slice o3 n3 x3, .int .i64 a.2.2.2.2] 33 (0, 0))) := box_stable bU B_x.out
  have B_s : Hid _ := nB
  have K5b : Hid (Below w.heap.size w V5) := K5.out.trans (bU.mono (by omega))
  have D0 : Hid _ := Own.on_same D0.out (Same.of_below bU (fun b hb => by omega))
  have D4 : Hid _ := Own.on_same D4.out (Same.of_below bU (fun b hb => by omega))
  have D5 : Hid _ := Own.on_same D5.out (Same.of_below bU (fun b hb => by omega))
  clear bU
  go_upto_region 8 with fail
  rw [← HU.out]
  clear HU
  obtain ⟨y0, _⟩ := cell_row B_s.out 0 _ rfl
  obtain ⟨y1, _⟩ := cell_row B_s.out 1 _ rfl
  obtain ⟨y2, _⟩ := cell_row B_s.out 2 _ rfl
  obtain ⟨y3, _⟩ := cell_row B_s.out 3 _ rfl
  obtain ⟨y4, _⟩ := cell_row B_s.out 4 _ rfl
  simp only [List.getElem_toArray, List.getElem_cons_zero, List.getElem_cons_succ] at y0 y1 y2 y3 y4
  obtain ⟨q0, _⟩ := cell_row B_r.out 0 _ rfl
  obtain ⟨q1, _⟩ := cell_row B_r.out 1 _ rfl
  obtain ⟨q2, _⟩ := cell_row B_r.out 2 _ rfl
  obtain ⟨q3, _⟩ := cell_row B_r.out 3 _ rfl
  obtain ⟨q4, _⟩ := cell_row B_r.out 4 _ rfl
  simp only [List.getElem_toArray, List.getElem_cons_zero, List.getElem_cons_succ] at q0 q1 q2 q3 q4
  have EQ1 : Hid (Calls Tryz.prog 8 #[.agg #[.slice so0 rn0 sk0, .slice so1 rn1 sk1, .slice so2 rn2 sk2, .slice so3 rn3 sk3, .int .i64 R.2.2.2.2], .agg #[.slice ro0 rn0 rk0, .slice ro1 rn1 rk1, .slice ro2 rn2 rk2, .slice ro3 rn3 rk3, .int .i64 R.2.2.2.2]] V5 _) := eqClaimBook_any _ _ R (cs [.slice so0 rn0 sk0, .slice so1 rn1 sk1, .slice so2 rn2 sk2, .slice so3 rn3 sk3, .int .i64 R.2.2.2.2]) (cs [.slice ro0 rn0 rk0, .slice ro1 rn1 rk1, .slice ro2 rn2 rk2, .slice ro3 rn3 rk3, .int .i64 R.2.2.2.2]) V5 (Own.on_at D5.out) (Own.on_at D0.out) (fun b hb => by omega) (fun b hb => by omega)
  go_wp2_with fail
  refine Calls.mono EQ1.out ?_
  rintro e u6 ⟨rfl, hbe⟩
  clear EQ1
  have su6 := hbe.size
  have Ku6 : Hid (Below w.heap.size w u6) := K5b.out.trans (hbe.mono (by omega))
  have D0 : Hid _ := Own.on_same D0.out (Same.of_below hbe (fun b hb => by omega))
  have D4 : Hid _ := Own.on_same D4.out (Same.of_below hbe (fun b hb => by omega))
  have D5 : Hid _ := Own.on_same D5.out (Same.of_below hbe (fun b hb => by omega))
  have B_c : Hid (u6.heap[w.heap.size]? = some (.cells #[c 0, c 1, c 2, c 3, c 4] 27 (0, 0))) := box_stable hbe B_c.out
  have B_r : Hid (u6.heap[u3.heap.size]? = some (.cells #[.slice ro0 rn0 rk0, .slice ro1 rn1 rk1, .slice ro2 rn2 rk2, .slice ro3 rn3 rk3, .int .i64 R.2.2.2.2] 33 (0, 0))) := box_stable hbe B_r.out
  have B_x : Hid (u6.heap[u4.heap.size]? = some (.cells #[.slice o0 n0 x0, .slice o1 n1 x1, .slice o2 n2 x2, .slice o3 n3 x3, .int .i64 a.2.2.2.2] 33 (0, 0))) := box_stable hbe B_x.out
  have B_s : Hid (u6.heap[u5.heap.size]? = some (.cells #[.slice so0 rn0 sk0, .slice so1 rn1 sk1, .slice so2 rn2 sk2, .slice so3 rn3 sk3, .int .i64 R.2.2.2.2] 33 (0, 0))) := box_stable hbe B_s.out
  clear hbe
  clear y0 y1 y2 y3 y4 q0 q1 q2 q3 q4
  obtain ⟨y0, _⟩ := cell_row B_c.out 0 _ rfl
  obtain ⟨y1, _⟩ := cell_row B_c.out 1 _ rfl
  obtain ⟨y2, _⟩ := cell_row B_c.out 2 _ rfl
  obtain ⟨y3, _⟩ := cell_row B_c.out 3 _ rfl
  obtain ⟨y4, _⟩ := cell_row B_c.out 4 _ rfl
  simp only [List.getElem_toArray, List.getElem_cons_zero, List.getElem_cons_succ] at y0 y1 y2 y3 y4
  obtain ⟨q0, _⟩ := cell_row B_x.out 0 _ rfl
  obtain ⟨q1, _⟩ := cell_row B_x.out 1 _ rfl
  obtain ⟨q2, _⟩ := cell_row B_x.out 2 _ rfl
  obtain ⟨q3, _⟩ := cell_row B_x.out 3 _ rfl
  obtain ⟨q4, _⟩ := cell_row B_x.out 4 _ rfl
  simp only [List.getElem_toArray, List.getElem_cons_zero, List.getElem_cons_succ] at q0 q1 q2 q3 q4
  go_wp2_with fail
  have EQX : Hid (∀ (w7 : World) (r : Nat → Value), Below u6.heap.size u6 w7 → Lay.At (fun b => u6.heap.size ≤ b ∧ b < w7.heap.size) w7 a r → Calls Tryz.prog 8 #[.agg #[.slice o0 n0 x0, .slice o1 n1 x1, .slice o2 n2 x2, .slice o3 n3 x3, .int .i64 a.2.2.2.2], .agg #[r 0, r 1, r 2, r 3, r 4]] w7 fun e w' => e = .returned (.bool true) ∧ Below w7.heap.size w7 w') := fun w7 r hb hr => eqClaimBook_any _ _ a (cs [.slice o0 n0 x0, .slice o1 n1 x1, .slice o2 n2 x2, .slice o3 n3 x3, .int .i64 a.2.2.2.2]) r w7 (Own.on_at (Own.on_same D4.out (Same.of_below hb (fun b hb => by omega)))) hr (fun b hb' => by have := hb.size; omega) (fun b hb => hb.2)
  go_region_with (first
    | (go_at_call 6; refine (toClaimBook_any S a c _ (by exact H.out _ Ku6.out.drew) (fun b hb => by show b < u6.heap.size; have := hS b hb; omega) HM.out).mono ?_; rintro e u7 ⟨r, rfl, G7, hb7⟩; have b67 : Below u6.heap.size u6 u7 := ((Below.refl _ _).drew).trans hb7; have HG7 : Hid (Lay.At (fun b => u6.heap.size ≤ b ∧ b < u7.heap.size) u7 a r) := G7; clear G7; have s7 : u6.heap.size ≤ u7.heap.size := b67.size; have q0 := (b67.cell (p := ⟨u4.heap.size, 0, none⟩) (by show u4.heap.size < u6.heap.size; omega)).trans q0; have q1 := (b67.cell (p := ⟨u4.heap.size, 1, none⟩) (by show u4.heap.size < u6.heap.size; omega)).trans q1; have q2 := (b67.cell (p := ⟨u4.heap.size, 2, none⟩) (by show u4.heap.size < u6.heap.size; omega)).trans q2; have q3 := (b67.cell (p := ⟨u4.heap.size, 3, none⟩) (by show u4.heap.size < u6.heap.size; omega)).trans q3; have q4 := (b67.cell (p := ⟨u4.heap.size, 4, none⟩) (by show u4.heap.size < u6.heap.size; omega)).trans q4)
    | (go_at_call 8; refine (EQX.out u7 r b67 HG7.out).mono ?_; rintro e u8 ⟨rfl, hb8⟩))
  all_goals
    have b68 : Below u6.heap.size u6 u8 := b67.trans (hb8.mono s7)
    have s8 : u6.heap.size ≤ u8.heap.size := b68.size
    have Ku8 : Hid (Below w.heap.size w u8) := Ku6.out.trans (b68.mono (by omega))
    have D0 : Hid _ := Own.on_same D0.out (Same.of_below b68 (fun b hb => by omega))
    have D4 : Hid _ := Own.on_same D4.out (Same.of_below b68 (fun b hb => by omega))
    have D5 : Hid _ := Own.on_same D5.out (Same.of_below b68 (fun b hb => by omega))
    have B_c : Hid (u8.heap[w.heap.size]? = some (.cells #[c 0, c 1, c 2, c 3, c 4] 27 (0, 0))) := box_stable b68 B_c.out
    have B_r : Hid (u8.heap[u3.heap.size]? = some (.cells #[.slice ro0 rn0 rk0, .slice ro1 rn1 rk1, .slice ro2 rn2 rk2, .slice ro3 rn3 rk3, .int .i64 R.2.2.2.2] 33 (0, 0))) := box_stable b68 B_r.out
    have B_x : Hid (u8.heap[u4.heap.size]? = some (.cells #[.slice o0 n0 x0, .slice o1 n1 x1, .slice o2 n2 x2, .slice o3 n3 x3, .int .i64 a.2.2.2.2] 33 (0, 0))) := box_stable b68 B_x.out
    have B_s : Hid (u8.heap[u5.heap.size]? = some (.cells #[.slice so0 rn0 sk0, .slice so1 rn1 sk1, .slice so2 rn2 sk2, .slice so3 rn3 sk3, .int .i64 R.2.2.2.2] 33 (0, 0))) := box_stable b68 B_s.out
    clear b68 b67 hb7 hb8 HG7 EQX y0 y1 y2 y3 y4 q0 q1 q2 q3 q4
    have CB4 : Hid (Own.cnt (lists4 a) ≤ 4194304) := cnt_lists HM.out
    have CB5 : Hid (Own.cnt (lists4 R) ≤ 4194304) := cnt_lists (HRT.out HM.out)
    have MK : Hid (Calls Tryz.prog 9 #[.agg #[.slice o0 n0 x0, .slice o1 n1 x1, .slice o2 n2 x2, .slice o3 n3 x3, .int .i64 a.2.2.2.2], .int .i64 1] u8 _) := markClaimBook_any _ (lists4 a) (cs [.slice o0 n0 x0, .slice o1 n1 x1, .slice o2 n2 x2, .slice o3 n3 x3, .int .i64 a.2.2.2.2]) a.2.2.2.2 1 u8 (on_lists D4.out) (fun b hb => by omega) (by omega) (by have := CB4.out; omega)
    obtain ⟨ca, hca⟩ : ∃ n, Own.cnt (lists4 a) = n := ⟨_, rfl⟩
    have MK2 := MK.out
    rw [hca] at MK2
    have MK3 : Hid _ := MK2
    clear MK MK2 hca CB4
    have hk9 : ¬ ((1 : Int) + (ca : Int) < 0) := by omega
    obtain ⟨q0, _⟩ := cell_row B_x.out 0 _ rfl
    obtain ⟨q1, _⟩ := cell_row B_x.out 1 _ rfl
    obtain ⟨q2, _⟩ := cell_row B_x.out 2 _ rfl
    obtain ⟨q3, _⟩ := cell_row B_x.out 3 _ rfl
    obtain ⟨q4, _⟩ := cell_row B_x.out 4 _ rfl
    simp only [List.getElem_toArray, List.getElem_cons_zero, List.getElem_cons_succ] at q0 q1 q2 q3 q4
    go_wp2_with fail
    refine Calls.mono MK3.out ?_
    rintro e u9 ⟨rfl, _, hbut⟩
    clear MK3 q0 q1 q2 q3 q4
    have s9 := hbut.size
    have Ku9 : Hid (Below w.heap.size w u9) := Ku8.out.trans (hbut.below (B := w.heap.size) (fun b hb => by omega) (by omega))
    have D0 : Hid _ := Own.on_same D0.out (hbut.same (fun b hb => ⟨by omega, by omega⟩))
    have D5 : Hid _ := Own.on_same D5.out (hbut.same (fun b hb => ⟨by omega, by omega⟩))
    clear D4
    have B_c : Hid (u9.heap[w.heap.size]? = some (.cells #[c 0, c 1, c 2, c 3, c 4] 27 (0, 0))) := (hbut.block (w.heap.size) (by omega) (by omega)).trans B_c.out
    have B_r : Hid (u9.heap[u3.heap.size]? = some (.cells #[.slice ro0 rn0 rk0, .slice ro1 rn1 rk1, .slice ro2 rn2 rk2, .slice ro3 rn3 rk3, .int .i64 R.2.2.2.2] 33 (0, 0))) := (hbut.block (u3.heap.size) (by omega) (by omega)).trans B_r.out
    have B_x : Hid (u9.heap[u4.heap.size]? = some (.cells #[.slice o0 n0 x0, .slice o1 n1 x1, .slice o2 n2 x2, .slice o3 n3 x3, .int .i64 a.2.2.2.2] 33 (0, 0))) := (hbut.block (u4.heap.size) (by omega) (by omega)).trans B_x.out
    have B_s : Hid (u9.heap[u5.heap.size]? = some (.cells #[.slice so0 rn0 sk0, .slice so1 rn1 sk1, .slice so2 rn2 sk2, .slice so3 rn3 sk3, .int .i64 R.2.2.2.2] 33 (0, 0))) := (hbut.block (u5.heap.size) (by omega) (by omega)).trans B_s.out
    clear hbut
    obtain ⟨y0, _⟩ := cell_row B_s.out 0 _ rfl
    obtain ⟨y1, _⟩ := cell_row B_s.out 1 _ rfl
    obtain ⟨y2, _⟩ := cell_row B_s.out 2 _ rfl
    obtain ⟨y3, _⟩ := cell_row B_s.out 3 _ rfl
    obtain ⟨y4, _⟩ := cell_row B_s.out 4 _ rfl
    simp only [List.getElem_toArray, List.getElem_cons_zero, List.getElem_cons_succ] at y0 y1 y2 y3 y4
    obtain ⟨q0, _⟩ := cell_row B_r.out 0 _ rfl
    obtain ⟨q1, _⟩ := cell_row B_r.out 1 _ rfl
    obtain ⟨q2, _⟩ := cell_row B_r.out 2 _ rfl
    obtain ⟨q3, _⟩ := cell_row B_r.out 3 _ rfl
    obtain ⟨q4, _⟩ := cell_row B_r.out 4 _ rfl
    simp only [List.getElem_toArray, List.getElem_cons_zero, List.getElem_cons_succ] at q0 q1 q2 q3 q4
    have EQ1 : Hid (Calls Tryz.prog 8 #[.agg #[.slice so0 rn0 sk0, .slice so1 rn1 sk1, .slice so2 rn2 sk2, .slice so3 rn3 sk3, .int .i64 R.2.2.2.2], .agg #[.slice ro0 rn0 rk0, .slice ro1 rn1 rk1, .slice ro2 rn2 rk2, .slice ro3 rn3 rk3, .int .i64 R.2.2.2.2]] u9 _) := eqClaimBook_any _ _ R (cs [.slice so0 rn0 sk0, .slice so1 rn1 sk1, .slice so2 rn2 sk2, .slice so3 rn3 sk3, .int .i64 R.2.2.2.2]) (cs [.slice ro0 rn0 rk0, .slice ro1 rn1 rk1, .slice ro2 rn2 rk2, .slice ro3 rn3 rk3, .int .i64 R.2.2.2.2]) u9 (Own.on_at D5.out) (Own.on_at D0.out) (fun b hb => by omega) (fun b hb => by omega)
    go_wp2_with fail
    refine Calls.mono EQ1.out ?_
    rintro e u10 ⟨rfl, hbe⟩
    clear EQ1
    have su10 := hbe.size
    have Ku10 : Hid (Below w.heap.size w u10) := Ku9.out.trans (hbe.mono (by omega))
    have D0 : Hid _ := Own.on_same D0.out (Same.of_below hbe (fun b hb => by omega))
    have D5 : Hid _ := Own.on_same D5.out (Same.of_below hbe (fun b hb => by omega))
    have B_c : Hid (u10.heap[w.heap.size]? = some (.cells #[c 0, c 1, c 2, c 3, c 4] 27 (0, 0))) := box_stable hbe B_c.out
    have B_r : Hid (u10.heap[u3.heap.size]? = some (.cells #[.slice ro0 rn0 rk0, .slice ro1 rn1 rk1, .slice ro2 rn2 rk2, .slice ro3 rn3 rk3, .int .i64 R.2.2.2.2] 33 (0, 0))) := box_stable hbe B_r.out
    have B_x : Hid (u10.heap[u4.heap.size]? = some (.cells #[.slice o0 n0 x0, .slice o1 n1 x1, .slice o2 n2 x2, .slice o3 n3 x3, .int .i64 a.2.2.2.2] 33 (0, 0))) := box_stable hbe B_x.out
    have B_s : Hid (u10.heap[u5.heap.size]? = some (.cells #[.slice so0 rn0 sk0, .slice so1 rn1 sk1, .slice so2 rn2 sk2, .slice so3 rn3 sk3, .int .i64 R.2.2.2.2] 33 (0, 0))) := box_stable hbe B_s.out
    clear hbe
    clear y0 y1 y2 y3 y4 q0 q1 q2 q3 q4
    have MS : Hid (Calls Tryz.prog 9 #[.agg #[.slice so0 rn0 sk0, .slice so1 rn1 sk1, .slice so2 rn2 sk2, .slice so3 rn3 sk3, .int .i64 R.2.2.2.2], .int .i64 1] u10 _) := markClaimBook_any _ (lists4 R) (cs [.slice so0 rn0 sk0, .slice so1 rn1 sk1, .slice so2 rn2 sk2, .slice so3 rn3 sk3, .int .i64 R.2.2.2.2]) R.2.2.2.2 1 u10 (on_lists D5.out) (fun b hb => by omega) (by omega) (by have := CB5.out; omega)
    obtain ⟨q0, _⟩ := cell_row B_s.out 0 _ rfl
    obtain ⟨q1, _⟩ := cell_row B_s.out 1 _ rfl
    obtain ⟨q2, _⟩ := cell_row B_s.out 2 _ rfl
    obtain ⟨q3, _⟩ := cell_row B_s.out 3 _ rfl
    obtain ⟨q4, _⟩ := cell_row B_s.out 4 _ rfl
    simp only [List.getElem_toArray, List.getElem_cons_zero, List.getElem_cons_succ] at q0 q1 q2 q3 q4
    go_wp2_with fail
    refine Calls.mono MS.out ?_
    rintro e u11 ⟨rfl, hon, hbut⟩
    clear MS q0 q1 q2 q3 q4
    have s11 := hbut.size
    have Ku11 : Hid (Below w.heap.size w u11) := Ku10.out.trans (hbut.below (B := w.heap.size) (fun b hb => by omega) (by omega))
    have D0 : Hid _ := Own.on_same D0.out (hbut.same (fun b hb => ⟨by omega, by omega⟩))
    clear D5
    have AT : Hid _ := Own.on_at hon
    have B_c : Hid (u11.heap[w.heap.size]? = some (.cells #[c 0, c 1, c 2, c 3, c 4] 27 (0, 0))) := (hbut.block (w.heap.size) (by omega) (by omega)).trans B_c.out
    have B_r : Hid (u11.heap[u3.heap.size]? = some (.cells #[.slice ro0 rn0 rk0, .slice ro1 rn1 rk1, .slice ro2 rn2 rk2, .slice ro3 rn3 rk3, .int .i64 R.2.2.2.2] 33 (0, 0))) := (hbut.block (u3.heap.size) (by omega) (by omega)).trans B_r.out
    have B_x : Hid (u11.heap[u4.heap.size]? = some (.cells #[.slice o0 n0 x0, .slice o1 n1 x1, .slice o2 n2 x2, .slice o3 n3 x3, .int .i64 a.2.2.2.2] 33 (0, 0))) := (hbut.block (u4.heap.size) (by omega) (by omega)).trans B_x.out
    have B_s : Hid (u11.heap[u5.heap.size]? = some (.cells #[.slice so0 rn0 sk0, .slice so1 rn1 sk1, .slice so2 rn2 sk2, .slice so3 rn3 sk3, .int .i64 R.2.2.2.2] 33 (0, 0))) := (hbut.block (u5.heap.size) (by omega) (by omega)).trans B_s.out
    have HE : Hid (∀ w', Below u11.heap.size u11 w' → Calls Tryz.prog 10 #[.agg #[.slice so0 rn0 sk0, .slice so1 rn1 sk1, .slice so2 rn2 sk2, .slice so3 rn3 sk3, .int .i64 R.2.2.2.2], .int .i64 1] w' fun e w'' => e = .returned (.int .i64 (1 + (Own.cnt (lists4 R) : Int))) ∧ Below w'.heap.size w' w'') := fun w' hb => heldClaimBook_any _ (lists4 R) (cs [.slice so0 rn0 sk0, .slice so1 rn1 sk1, .slice so2 rn2 sk2, .slice so3 rn3 sk3, .int .i64 R.2.2.2.2]) R.2.2.2.2 1 w' (Lay.same AT.out (Same.of_below hb (fun b hb => by omega))) (fun b hb' => by have := hb.size; omega) (by omega) (by have := CB5.out; omega)
    clear hbut hon AT
    obtain ⟨cl, hcl⟩ : ∃ n, Own.cnt (lists4 R) = n := ⟨_, rfl⟩
    rw [hcl] at HE
    rw [hcl]
    clear hcl CB5
    have hk11 : ¬ ((1 : Int) + (cl : Int) < 0) := by omega
    obtain ⟨q0, _⟩ := cell_row B_s.out 0 _ rfl
    obtain ⟨q1, _⟩ := cell_row B_s.out 1 _ rfl
    obtain ⟨q2, _⟩ := cell_row B_s.out 2 _ rfl
    obtain ⟨q3, _⟩ := cell_row B_s.out 3 _ rfl
    obtain ⟨q4, _⟩ := cell_row B_s.out 4 _ rfl
    simp only [List.getElem_toArray, List.getElem_cons_zero, List.getElem_cons_succ] at q0 q1 q2 q3 q4
    go_wp2_with fail
    refine (HE.out u11 (Below.refl _ _)).mono ?_
    rintro e u12 ⟨rfl, hb12⟩
    clear q0 q1 q2 q3 q4
    have s12 := hb12.size
    have b1112 : Hid (Below u11.heap.size u11 u12) := hb12
    have Ku12 : Hid (Below w.heap.size w u12) := Ku11.out.trans (hb12.mono (by omega))
    have D0 : Hid _ := Own.on_same D0.out (Same.of_below hb12 (fun b hb => by omega))
    have B_c : Hid (u12.heap[w.heap.size]? = some (.cells #[c 0, c 1, c 2, c 3, c 4] 27 (0, 0))) := box_stable hb12 B_c.out
    have B_r : Hid (u12.heap[u3.heap.size]? = some (.cells #[.slice ro0 rn0 rk0, .slice ro1 rn1 rk1, .slice ro2 rn2 rk2, .slice ro3 rn3 rk3, .int .i64 R.2.2.2.2] 33 (0, 0))) := box_stable hb12 B_r.out
    have B_x : Hid (u12.heap[u4.heap.size]? = some (.cells #[.slice o0 n0 x0, .slice o1 n1 x1, .slice o2 n2 x2, .slice o3 n3 x3, .int .i64 a.2.2.2.2] 33 (0, 0))) := box_stable hb12 B_x.out
    have B_s : Hid (u12.heap[u5.heap.size]? = some (.cells #[.slice so0 rn0 sk0, .slice so1 rn1 sk1, .slice so2 rn2 sk2, .slice so3 rn3 sk3, .int .i64 R.2.2.2.2] 33 (0, 0))) := box_stable hb12 B_s.out
    clear hb12
    obtain ⟨y0, _⟩ := cell_row B_c.out 0 _ rfl
    obtain ⟨y1, _⟩ := cell_row B_c.out 1 _ rfl
    obtain ⟨y2, _⟩ := cell_row B_c.out 2 _ rfl
    obtain ⟨y3, _⟩ := cell_row B_c.out 3 _ rfl
    obtain ⟨y4, _⟩ := cell_row B_c.out 4 _ rfl
    simp only [List.getElem_toArray, List.getElem_cons_zero, List.getElem_cons_succ] at y0 y1 y2 y3 y4
    go_wp2_with fail
    refine (toClaimBook_any S a c u12 (H.out _ Ku12.out) (fun b hb => by have := hS b hb; omega) HM.out).mono ?_
    rintro e u13 ⟨g, rfl, G, hb13⟩
    clear y0 y1 y2 y3 y4
    have s13 := hb13.size
    have Ku13 : Hid (Below w.heap.size w u13) := Ku12.out.trans (hb13.mono (by omega))
    have b1113 : Hid (Below u11.heap.size u11 u13) := b1112.out.trans (hb13.mono (by omega))
    have D0 : Hid _ := Own.on_same D0.out (Same.of_below hb13 (fun b hb => by omega))
    have B_c : Hid (u13.heap[w.heap.size]? = some (.cells #[c 0, c 1, c 2, c 3, c 4] 27 (0, 0))) := box_stable hb13 B_c.out
    have B_r : Hid (u13.heap[u3.heap.size]? = some (.cells #[.slice ro0 rn0 rk0, .slice ro1 rn1 rk1, .slice ro2 rn2 rk2, .slice ro3 rn3 rk3, .int .i64 R.2.2.2.2] 33 (0, 0))) := box_stable hb13 B_r.out
    have B_x : Hid (u13.heap[u4.heap.size]? = some (.cells #[.slice o0 n0 x0, .slice o1 n1 x1, .slice o2 n2 x2, .slice o3 n3 x3, .int .i64 a.2.2.2.2] 33 (0, 0))) := box_stable hb13 B_x.out
    have B_s : Hid (u13.heap[u5.heap.size]? = some (.cells #[.slice so0 rn0 sk0, .slice so1 rn1 sk1, .slice so2 rn2 sk2, .slice so3 rn3 sk3, .int .i64 R.2.2.2.2] 33 (0, 0))) := box_stable hb13 B_s.out
    have CI2 : Hid _ := CI.out _ g u13 G (fun b hb => hb.2) HM.out
    clear G hb13
    go_wp2_with fail
    refine Calls.mono CI2.out ?_
    rintro e u14 ⟨t, rfl, hr, hb14⟩
    clear CI2
    have s14 := hb14.size
    have Ku14 : Hid (Below w.heap.size w u14) := Ku13.out.trans (hb14.mono (by omega))
    have b1114 : Hid (Below u11.heap.size u11 u14) := b1113.out.trans (hb14.mono (by omega))
    have D0 : Hid _ := Own.on_same D0.out (Same.of_below hb14 (fun b hb => by omega))
    have B_c : Hid (u14.heap[w.heap.size]? = some (.cells #[c 0, c 1, c 2, c 3, c 4] 27 (0, 0))) := box_stable hb14 B_c.out
    have B_r : Hid (u14.heap[u3.heap.size]? = some (.cells #[.slice ro0 rn0 rk0, .slice ro1 rn1 rk1, .slice ro2 rn2 rk2, .slice ro3 rn3 rk3, .int .i64 R.2.2.2.2] 33 (0, 0))) := box_stable hb14 B_r.out
    have B_x : Hid (u14.heap[u4.heap.size]? = some (.cells #[.slice o0 n0 x0, .slice o1 n1 x1, .slice o2 n2 x2, .slice o3 n3 x3, .int .i64 a.2.2.2.2] 33 (0, 0))) := box_stable hb14 B_x.out
    have B_s : Hid (u14.heap[u5.heap.size]? = some (.cells #[.slice so0 rn0 sk0, .slice so1 rn1 sk1, .slice so2 rn2 sk2, .slice so3 rn3 sk3, .int .i64 R.2.2.2.2] 33 (0, 0))) := box_stable hb14 B_s.out
    clear hb14
    obtain ⟨d0, d1, d2, d3, ⟨ge4, _⟩⟩ := at_DClaimBook.1 (Own.on_at hr)
    obtain ⟨to0, tk0, ge0, _⟩ := d0
    rw [Ern0.out] at ge0
    obtain ⟨to1, tk1, ge1, _⟩ := d1
    rw [Ern1.out] at ge1
    obtain ⟨to2, tk2, ge2, _⟩ := d2
    rw [Ern2.out] at ge2
    obtain ⟨to3, tk3, ge3, _⟩ := d3
    rw [Ern3.out] at ge3
    rw [ge0, ge1, ge2, ge3, ge4]
    have D14 : Hid (Own.On (fun b => u13.heap.size ≤ b ∧ b < u14.heap.size) u14 R (cs [.slice to0 rn0 tk0, .slice to1 rn1 tk1, .slice to2 rn2 tk2, .slice to3 rn3 tk3, .int .i64 R.2.2.2.2])) := Own.on_ext hr (fun j hj => by rw [width_DClaimBook] at hj; rcases (show j = 0 ∨ j = 1 ∨ j = 2 ∨ j = 3 ∨ j = 4 by omega) with rfl | rfl | rfl | rfl | rfl <;> first | exact ge0.symm | exact ge1.symm | exact ge2.symm | exact ge3.symm | exact ge4.symm)
    clear hr ge0 ge1 ge2 ge3 ge4
    obtain ⟨V14, h'⟩ : ∃ V, V = u14.alloc (.cells #[.slice to0 rn0 tk0, .slice to1 rn1 tk1, .slice to2 rn2 tk2, .slice to3 rn3 tk3, .int .i64 R.2.2.2.2] 33) := ⟨_, rfl⟩
    have HU : Hid (V14 = u14.alloc (.cells #[.slice to0 rn0 tk0, .slice to1 rn1 tk1, .slice to2 rn2 tk2, .slice to3 rn3 tk3, .int .i64 R.2.2.2.2] 33)) := h'
    have bU : Below u14.heap.size u14 V14 := by rw [h']; exact (Below.refl _ _).alloc (Nat.le_refl _) _
    have zV14 : V14.heap.size ≤ u14.heap.size + 1 ∧ u14.heap.size + 1 ≤ V14.heap.size := by rw [h']; simp
    have nB : Hid (V14.heap[u14.heap.size]? = some (.cells #[.slice to0 rn0 tk0, .slice to1 rn1 tk1, .slice to2 rn2 tk2, .slice to3 rn3 tk3, .int .i64 R.2.2.2.2] 33 (0, 0))) := by rw [h']; exact heap_alloc_new u14 _
    clear h'
    have B_c : Hid (V14.heap[w.heap.size]? = some (.cells #[c 0, c 1, c 2, c 3, c 4] 27 (0, 0))) := box_stable bU B_c.out
    have B_r : Hid (V14.heap[u3.heap.size]? = some (.cells #[.slice ro0 rn0 rk0, .slice ro1 rn1 rk1, .slice ro2 rn2 rk2, .slice ro3 rn3 rk3, .int .i64 R.2.2.2.2] 33 (0, 0))) := box_stable bU B_r.out
    have B_x : Hid (V14.heap[u4.heap.size]? = some (.cells #[.slice o0 n0 x0, .slice o1 n1 x1, .slice o2 n2 x2, .slice o3 n3 x3, .int .i64 a.2.2.2.2] 33 (0, 0))) := box_stable bU B_x.out
    have B_s : Hid (V14.heap[u5.heap.size]? = some (.cells #[.slice so0 rn0 sk0, .slice so1 rn1 sk1, .slice so2 rn2 sk2, .slice so3 rn3 sk3, .int .i64 R.2.2.2.2] 33 (0, 0))) := box_stable bU B_s.out
    have B_t : Hid _ := nB
    have KV14 : Hid (Below w.heap.size w V14) := Ku14.out.trans (bU.mono (by omega))
    have b1115 : Hid (Below u11.heap.size u11 V14) := b1114.out.trans (bU.mono (by omega))
    have D0 : Hid _ := Own.on_same D0.out (Same.of_below bU (fun b hb => by omega))
    have D14 : Hid _ := Own.on_same D14.out (Same.of_below bU (fun b hb => hb.2))
    clear bU
    go_upto_region 25 with fail
    rw [← HU.out]
    clear HU
    obtain ⟨y0, _⟩ := cell_row B_t.out 0 _ rfl
    obtain ⟨y1, _⟩ := cell_row B_t.out 1 _ rfl
    obtain ⟨y2, _⟩ := cell_row B_t.out 2 _ rfl
    obtain ⟨y3, _⟩ := cell_row B_t.out 3 _ rfl
    obtain ⟨y4, _⟩ := cell_row B_t.out 4 _ rfl
    simp only [List.getElem_toArray, List.getElem_cons_zero, List.getElem_cons_succ] at y0 y1 y2 y3 y4
    obtain ⟨q0, _⟩ := cell_row B_r.out 0 _ rfl
    obtain ⟨q1, _⟩ := cell_row B_r.out 1 _ rfl
    obtain ⟨q2, _⟩ := cell_row B_r.out 2 _ rfl
    obtain ⟨q3, _⟩ := cell_row B_r.out 3 _ rfl
    obtain ⟨q4, _⟩ := cell_row B_r.out 4 _ rfl
    simp only [List.getElem_toArray, List.getElem_cons_zero, List.getElem_cons_succ] at q0 q1 q2 q3 q4
    have EQ1 : Hid (Calls Tryz.prog 8 #[.agg #[.slice to0 rn0 tk0, .slice to1 rn1 tk1, .slice to2 rn2 tk2, .slice to3 rn3 tk3, .int .i64 R.2.2.2.2], .agg #[.slice ro0 rn0 rk0, .slice ro1 rn1 rk1, .slice ro2 rn2 rk2, .slice ro3 rn3 rk3, .int .i64 R.2.2.2.2]] V14 _) := eqClaimBook_any _ _ R (cs [.slice to0 rn0 tk0, .slice to1 rn1 tk1, .slice to2 rn2 tk2, .slice to3 rn3 tk3, .int .i64 R.2.2.2.2]) (cs [.slice ro0 rn0 rk0, .slice ro1 rn1 rk1, .slice ro2 rn2 rk2, .slice ro3 rn3 rk3, .int .i64 R.2.2.2.2]) V14 (Own.on_at D14.out) (Own.on_at D0.out) (fun b hb => by omega) (fun b hb => by omega)
    go_wp2_with fail
    refine Calls.mono EQ1.out ?_
    rintro e u15 ⟨rfl, hbe⟩
    have s15 := hbe.size
    have Ku15 : Hid (Below w.heap.size w u15) := KV14.out.trans (hbe.mono (by omega))
    have b1116 : Hid (Below u11.heap.size u11 u15) := b1115.out.trans (hbe.mono (by omega))
    have B_c : Hid (u15.heap[w.heap.size]? = some (.cells #[c 0, c 1, c 2, c 3, c 4] 27 (0, 0))) := box_stable hbe B_c.out
    have B_r : Hid (u15.heap[u3.heap.size]? = some (.cells #[.slice ro0 rn0 rk0, .slice ro1 rn1 rk1, .slice ro2 rn2 rk2, .slice ro3 rn3 rk3, .int .i64 R.2.2.2.2] 33 (0, 0))) := box_stable hbe B_r.out
    have B_x : Hid (u15.heap[u4.heap.size]? = some (.cells #[.slice o0 n0 x0, .slice o1 n1 x1, .slice o2 n2 x2, .slice o3 n3 x3, .int .i64 a.2.2.2.2] 33 (0, 0))) := box_stable hbe B_x.out
    have B_s : Hid (u15.heap[u5.heap.size]? = some (.cells #[.slice so0 rn0 sk0, .slice so1 rn1 sk1, .slice so2 rn2 sk2, .slice so3 rn3 sk3, .int .i64 R.2.2.2.2] 33 (0, 0))) := box_stable hbe B_s.out
    have B_t : Hid (u15.heap[u14.heap.size]? = some (.cells #[.slice to0 rn0 tk0, .slice to1 rn1 tk1, .slice to2 rn2 tk2, .slice to3 rn3 tk3, .int .i64 R.2.2.2.2] 33 (0, 0))) := box_stable hbe B_t.out
    clear hbe EQ1 y0 y1 y2 y3 y4 q0 q1 q2 q3 q4
    obtain ⟨q0, _⟩ := cell_row B_s.out 0 _ rfl
    obtain ⟨q1, _⟩ := cell_row B_s.out 1 _ rfl
    obtain ⟨q2, _⟩ := cell_row B_s.out 2 _ rfl
    obtain ⟨q3, _⟩ := cell_row B_s.out 3 _ rfl
    obtain ⟨q4, _⟩ := cell_row B_s.out 4 _ rfl
    simp only [List.getElem_toArray, List.getElem_cons_zero, List.getElem_cons_succ] at q0 q1 q2 q3 q4
    go_wp2_with fail
    refine (HE.out u15 b1116.out).mono ?_
    rintro e u16 ⟨rfl, hb16⟩
    have Ku16 : Hid (Below w.heap.size w u16) := Ku15.out.trans (hb16.mono (by omega))
    go_wp2_with fail
    go_ret
    exact ⟨rfl, Ku16.out⟩

end Go.Proofs.YticojnepejboaacGreat
