/-
  ClaimStop, of the model and of the program: the answer owns its memory.
-/
import Derived.Test.YticojnepejboaacGreatGu
namespace Go.Proofs.YticojnepejboaacGreat
open Go.RowKit

theorem idx_cases {α : Type} (l : List α) (p : α → Bool) : idxI l p = -1 ∨ ∃ k, k < l.length ∧ idxI l p = (k : Nat) := by
  unfold idxI
  cases h : l.findIdx? p with
  | none => exact .inl rfl
  | some k => exact .inr ⟨k, (List.findIdx?_eq_some_iff_getElem.1 h).1, rfl⟩
def noBook : DClaimBook := ([], [], [], [], 0)
noncomputable def stopB (a : DClaimBook) (x : Int) : DClaimBook := if bookS a.1 a.2.1 a.2.2.1 a.2.2.2.1 a.2.2.2.2 then (if idxI a.2.2.2.1 (fun p : DClaimPart => p.1 == x) < 0 then a else stopAt a (idxI a.2.2.2.1 (fun p : DClaimPart => p.1 == x)).toNat) else noBook
noncomputable def stopC (a : DClaimBook) (x : Int) : Int := if bookS a.1 a.2.1 a.2.2.1 a.2.2.2.1 a.2.2.2.2 then (if idxI a.2.2.2.1 (fun p : DClaimPart => p.1 == x) < 0 then 3 else 0) else 1
/-- What partOf answers: a place, a code. -/
noncomputable def partC (a : DClaimBook) (x : Int) : Int := stopC a x
theorem stop_bad {a : DClaimBook} (x : Int) (h : bookS a.1 a.2.1 a.2.2.1 a.2.2.2.1 a.2.2.2.2 = false) : stopB a x = noBook ∧ stopC a x = 1 := by unfold stopB stopC; rw [h]; exact ⟨rfl, rfl⟩
theorem stop_no {a : DClaimBook} {x : Int} (h : bookS a.1 a.2.1 a.2.2.1 a.2.2.2.1 a.2.2.2.2 = true) (hi : idxI a.2.2.2.1 (fun p : DClaimPart => p.1 == x) = -1) : stopB a x = a ∧ stopC a x = 3 := by unfold stopB stopC; rw [h, hi]; exact ⟨rfl, rfl⟩
theorem stop_yes {a : DClaimBook} {x : Int} (h : bookS a.1 a.2.1 a.2.2.1 a.2.2.2.1 a.2.2.2.2 = true) {k : Nat} (hi : idxI a.2.2.2.1 (fun p : DClaimPart => p.1 == x) = (k : Nat)) : stopB a x = stopAt a k ∧ stopC a x = 0 := by
  unfold stopB stopC
  rw [h, hi, if_pos rfl, if_neg (by omega), if_pos rfl, if_neg (by omega)]
  exact ⟨by simp, rfl⟩
theorem on_noBook (S : Nat → Prop) (w : World) : Own.On S w noBook (cs [.slice none 0 0, .slice none 0 0, .slice none 0 0, .slice none 0 0, .int .i64 0]) :=
  on_DClaimBook.2 ⟨fun _ => False, fun _ => False, fun _ h => h.elim, fun _ h => h.elim, ⟨none, 0, rfl, ⟨Nat.zero_le _, Nat.le_refl _, fun _ => rfl⟩, .inl rfl⟩, fun _ => False, fun _ => False, fun _ h => h.elim, fun _ h => h.elim, ⟨none, 0, rfl, ⟨Nat.zero_le _, Nat.le_refl _, fun _ => rfl⟩, .inl rfl⟩, fun _ => False, fun _ => False, fun _ h => h.elim, fun _ h => h.elim, ⟨none, 0, rfl, ⟨Nat.zero_le _, Nat.le_refl _, fun _ => rfl⟩, .inl rfl⟩, fun _ => False, fun _ => False, fun _ h => h.elim, fun _ h => h.elim, ⟨none, 0, rfl, ⟨Nat.zero_le _, Nat.le_refl _, fun _ => rfl⟩, .inl rfl⟩, ⟨rfl, by decide, by decide⟩⟩

set_option maxRecDepth 100000 in
set_option maxHeartbeats 8000000 in
theorem stopS_any (S : Nat → Prop) (a : DClaimBook) (c : Nat → Value) (x : Int) (w : World) (h : Lay.At S w a c) (hS : ∀ b, S b → b < w.heap.size) (hm : Lay.tot a ≤ 1048576) :
    Calls Tryz.prog 5 #[.agg #[c 0, c 1, c 2, c 3, c 4], .int .i64 x] w fun e w' => ∃ g : Nat → Value, e = .returned (.tuple #[.agg #[g 0, g 1, g 2, g 3, g 4], .int .i64 (stopC a x)]) ∧ Own.On (fun b => w.heap.size ≤ b ∧ b < w'.heap.size) w' (stopB a x) g ∧ Below w.heap.size w w' := by
  have HA : Hid (∀ w', Below w.heap.size w w' → Lay.At S w' a c) := fun w' hb => Lay.same h (Same.of_below hb hS)
  have HC4 : Hid (c 4 = .int .i64 a.2.2.2.2) := (at_DClaimBook.1 h).2.2.2.2.1
  have HB3 : Hid (-9223372036854775808 ≤ a.2.2.2.2 ∧ a.2.2.2.2 ≤ 9223372036854775807) := (at_DClaimBook.1 h).2.2.2.2.2
  clear h
  obtain ⟨W, hW⟩ : ∃ W, W = ((w.alloc (.cells #[c 0, c 1, c 2, c 3, c 4] 33)).alloc (.cells #[.slice none 0 0, .slice none 0 0, .slice none 0 0, .slice none 0 0, .int .i64 0] 33)) := ⟨_, rfl⟩
  have BW : Hid (Below w.heap.size w W) := by rw [hW]; exact ((Below.refl _ _).alloc (Nat.le_refl _) _).alloc (by simp) _
  have sW : w.heap.size + 2 ≤ W.heap.size := by rw [hW]; simp
  have XA0 : Hid (W.heap[w.heap.size]? = some (.cells #[c 0, c 1, c 2, c 3, c 4] 33 (0, 0))) := by rw [hW]; exact (Below.heap_alloc _ _ _ (by simp)).trans (heap_alloc_new w _)
  have YA0 : Hid (W.heap[w.heap.size + 1]? = some (.cells #[.slice none 0 0, .slice none 0 0, .slice none 0 0, .slice none 0 0, .int .i64 0] 33 (0, 0))) := by rw [hW]; have := heap_alloc_new (w.alloc (.cells #[c 0, c 1, c 2, c 3, c 4] 33)) (.cells #[.slice none 0 0, .slice none 0 0, .slice none 0 0, .slice none 0 0, .int .i64 0] 33); rw [World.size_alloc] at this; exact this
  have HW : Hid (W = ((w.alloc (.cells #[c 0, c 1, c 2, c 3, c 4] 33)).alloc (.cells #[.slice none 0 0, .slice none 0 0, .slice none 0 0, .slice none 0 0, .int .i64 0] 33))) := hW
  clear hW
  go_enter Tryz.func5, Tryz.ntmps5
  go_upto_region 1 with fail
  rw [← HW.out]
  clear HW
  have CBK : Hid _ := bookC_any S (c 0) (c 1) (c 2) (c 3) a.2.2.2.2 a.1 a.2.1 a.2.2.1 a.2.2.2.1 W (at_DClaimBook.1 (HA.out _ BW.out)).1 (at_DClaimBook.1 (HA.out _ BW.out)).2.1 (at_DClaimBook.1 (HA.out _ BW.out)).2.2.1 (at_DClaimBook.1 (HA.out _ BW.out)).2.2.2.1 (fun b hb => by have := hS b hb; omega)
  have CBK2 := CBK.out
  rw [← HC4.out] at CBK2
  have CBK3 : Hid _ := CBK2
  clear CBK CBK2
  obtain ⟨y0, _⟩ := cell_row XA0.out 0 _ rfl
  obtain ⟨y1, _⟩ := cell_row XA0.out 1 _ rfl
  obtain ⟨y2, _⟩ := cell_row XA0.out 2 _ rfl
  obtain ⟨y3, _⟩ := cell_row XA0.out 3 _ rfl
  obtain ⟨y4, _⟩ := cell_row XA0.out 4 _ rfl
  simp only [List.getElem_toArray, List.getElem_cons_zero, List.getElem_cons_succ] at y0 y1 y2 y3 y4
  go_wp2_with fail
  refine Calls.mono CBK3.out ?_
  rintro e w1 ⟨rfl, hb1⟩
  clear y0 y1 y2 y3 y4 CBK3
  have B1 : Hid (Below w.heap.size w w1) := BW.out.trans (hb1.mono (by omega))
  have s1 := hb1.size
  have XA1 : Hid _ := box_stable hb1 XA0.out
  have YA1 : Hid _ := box_stable hb1 YA0.out
  clear hb1
  cases hbk : bookS a.1 a.2.1 a.2.2.1 a.2.2.2.1 a.2.2.2.2
  · obtain ⟨t0, f0⟩ := cell_row YA1.out 0 _ rfl
    obtain ⟨t1, f1⟩ := cell_row YA1.out 1 _ rfl
    obtain ⟨t2, f2⟩ := cell_row YA1.out 2 _ rfl
    obtain ⟨t3, f3⟩ := cell_row YA1.out 3 _ rfl
    obtain ⟨t4, f4⟩ := cell_row YA1.out 4 _ rfl
    simp only [List.getElem_toArray, List.getElem_cons_zero, List.getElem_cons_succ] at t0 t1 t2 t3 t4
    obtain ⟨F0, F1, F2, F3⟩ := ret_5 YA1.out (.slice none 0 0) (.slice none 0 0) (.slice none 0 0) (.slice none 0 0) (.int .i64 0)
    have g0 := (cell_row F0 0 _ rfl).1
    have g1 := (cell_row F0 1 _ rfl).1
    have g2 := (cell_row F0 2 _ rfl).1
    have g3 := (cell_row F0 3 _ rfl).1
    have g4 := (cell_row F0 4 _ rfl).1
    simp only [List.getElem_toArray, List.getElem_cons_zero, List.getElem_cons_succ] at g0 g1 g2 g3 g4
    have ONF : Hid (Own.On (fun b => w.heap.size ≤ b ∧ b < (((((w1.setCell ⟨w.heap.size + 1, 0, none⟩ (.slice none 0 0)).setCell ⟨w.heap.size + 1, 1, none⟩ (.slice none 0 0)).setCell ⟨w.heap.size + 1, 2, none⟩ (.slice none 0 0)).setCell ⟨w.heap.size + 1, 3, none⟩ (.slice none 0 0)).setCell ⟨w.heap.size + 1, 4, none⟩ (.int .i64 0)).heap.size) (((((w1.setCell ⟨w.heap.size + 1, 0, none⟩ (.slice none 0 0)).setCell ⟨w.heap.size + 1, 1, none⟩ (.slice none 0 0)).setCell ⟨w.heap.size + 1, 2, none⟩ (.slice none 0 0)).setCell ⟨w.heap.size + 1, 3, none⟩ (.slice none 0 0)).setCell ⟨w.heap.size + 1, 4, none⟩ (.int .i64 0)) (stopB a x) (cs [.slice none 0 0, .slice none 0 0, .slice none 0 0, .slice none 0 0, .int .i64 0])) := by
      show Own.On _ _ _ _
      rw [(stop_bad x hbk).1]
      exact Own.on_up (Own.on_same (on_noBook (fun _ => False) w1) (fun _ h => h.elim)) (fun _ h => h.elim)
    have BF : Hid (Below w.heap.size w (((((w1.setCell ⟨w.heap.size + 1, 0, none⟩ (.slice none 0 0)).setCell ⟨w.heap.size + 1, 1, none⟩ (.slice none 0 0)).setCell ⟨w.heap.size + 1, 2, none⟩ (.slice none 0 0)).setCell ⟨w.heap.size + 1, 3, none⟩ (.slice none 0 0)).setCell ⟨w.heap.size + 1, 4, none⟩ (.int .i64 0))) := (B1.out).trans (F3.mono (by omega))
    have EQC : Hid (stopC a x = 1) := (stop_bad x hbk).2
    go_wp2_with fail
    exact bodyPost_ret (v := .tuple #[.agg #[.slice none 0 0, .slice none 0 0, .slice none 0 0, .slice none 0 0, .int .i64 0], .int .i64 1]) (by simp [results, Tryz.results5, go_sem, g0, g1, g2, g3, g4]) rfl ⟨cs [.slice none 0 0, .slice none 0 0, .slice none 0 0, .slice none 0 0, .int .i64 0], by rw [EQC.out]; rfl, ONF.out, BF.out⟩
  · obtain ⟨y0, _⟩ := cell_row XA1.out 0 _ rfl
    obtain ⟨y1, _⟩ := cell_row XA1.out 1 _ rfl
    obtain ⟨y2, _⟩ := cell_row XA1.out 2 _ rfl
    obtain ⟨y3, _⟩ := cell_row XA1.out 3 _ rfl
    obtain ⟨y4, _⟩ := cell_row XA1.out 4 _ rfl
    simp only [List.getElem_toArray, List.getElem_cons_zero, List.getElem_cons_succ] at y0 y1 y2 y3 y4
    have CP : Hid _ := copy22_any S a c w1 (HA.out _ B1.out) (fun b hb => by have := hS b hb; omega) hm
    go_wp2_with fail
    refine Calls.mono CP.out ?_
    rintro e u ⟨g, rfl, hg, hb2⟩
    clear y0 y1 y2 y3 y4 CP
    have HON : Hid (Own.On (fun b => w1.heap.size ≤ b ∧ b < u.heap.size) u a g) := hg
    obtain ⟨d0, d1, d2, d3, ⟨ge4, _⟩⟩ := at_DClaimBook.1 (Own.on_at hg)
    clear hg
    obtain ⟨o0, k0, ge0, _⟩ := d0
    obtain ⟨n0, en0⟩ : ∃ n, a.1.length = n := ⟨_, rfl⟩
    rw [en0] at ge0
    obtain ⟨o1, k1, ge1, _⟩ := d1
    obtain ⟨n1, en1⟩ : ∃ n, a.2.1.length = n := ⟨_, rfl⟩
    rw [en1] at ge1
    obtain ⟨o2, k2, ge2, _⟩ := d2
    obtain ⟨n2, en2⟩ : ∃ n, a.2.2.1.length = n := ⟨_, rfl⟩
    rw [en2] at ge2
    obtain ⟨o3, k3, ge3, _⟩ := d3
    obtain ⟨n3, en3⟩ : ∃ n, a.2.2.2.1.length = n := ⟨_, rfl⟩
    rw [en3] at ge3
    rw [ge0, ge1, ge2, ge3, ge4]
    have HON2 : Hid (Own.On (fun b => w1.heap.size ≤ b ∧ b < u.heap.size) u a (cs [.slice o0 n0 k0, .slice o1 n1 k1, .slice o2 n2 k2, .slice o3 n3 k3, .int .i64 a.2.2.2.2])) := Own.on_ext HON.out (fun j hj => by rw [width_DClaimBook] at hj; rcases (show j = 0 ∨ j = 1 ∨ j = 2 ∨ j = 3 ∨ j = 4 by omega) with rfl | rfl | rfl | rfl | rfl <;> first | exact ge0.symm | exact ge1.symm | exact ge2.symm | exact ge3.symm | exact ge4.symm)
    have EN3 : Hid (a.2.2.2.1.length = n3) := en3
    clear HON ge0 ge1 ge2 ge3 ge4 en0 en1 en2 en3
    have s2 := hb2.size
    obtain ⟨U3, hU3⟩ : ∃ V, V = u.alloc (.cells #[.slice o0 n0 k0, .slice o1 n1 k1, .slice o2 n2 k2, .slice o3 n3 k3, .int .i64 a.2.2.2.2] 33) := ⟨_, rfl⟩
    have HU3 : Hid (U3 = u.alloc (.cells #[.slice o0 n0 k0, .slice o1 n1 k1, .slice o2 n2 k2, .slice o3 n3 k3, .int .i64 a.2.2.2.2] 33)) := hU3
    have BU3 : Hid (Below u.heap.size u U3) := by rw [hU3]; exact (Below.refl _ _).alloc (Nat.le_refl _) _
    have s3 : U3.heap.size ≤ u.heap.size + 1 ∧ u.heap.size + 1 ≤ U3.heap.size := by rw [hU3]; simp
    have XB3 : Hid (U3.heap[u.heap.size]? = some (.cells #[.slice o0 n0 k0, .slice o1 n1 k1, .slice o2 n2 k2, .slice o3 n3 k3, .int .i64 a.2.2.2.2] 33 (0, 0))) := by rw [hU3]; exact heap_alloc_new u _
    clear hU3
    have B3 : Hid (Below w.heap.size w U3) := B1.out.trans ((hb2.trans (BU3.out.mono s2)).mono (by omega))
    have XA3 : Hid _ := box_stable BU3.out (box_stable hb2 XA1.out)
    have YA3 : Hid _ := box_stable BU3.out (box_stable hb2 YA1.out)
    clear hb2
    go_upto_region 4 with fail
    rw [← HU3.out]
    clear HU3
    have CT : Hid _ := partAtC_any S (c 0) (c 1) (c 2) (c 3) (c 4) a.2.2.2.1 x U3 (at_DClaimBook.1 (HA.out _ B3.out)).2.2.2.1 (fun b hb => by have := hS b hb; omega)
    obtain ⟨y0, _⟩ := cell_row XA3.out 0 _ rfl
    obtain ⟨y1, _⟩ := cell_row XA3.out 1 _ rfl
    obtain ⟨y2, _⟩ := cell_row XA3.out 2 _ rfl
    obtain ⟨y3, _⟩ := cell_row XA3.out 3 _ rfl
    obtain ⟨y4, _⟩ := cell_row XA3.out 4 _ rfl
    simp only [List.getElem_toArray, List.getElem_cons_zero, List.getElem_cons_succ] at y0 y1 y2 y3 y4
    go_wp2_with fail
    refine Calls.mono CT.out ?_
    rintro e u4 ⟨rfl, hb4⟩
    clear y0 y1 y2 y3 y4 CT
    have s4 := hb4.size
    have XB4 : Hid _ := box_stable hb4 XB3.out
    have YA4 : Hid _ := box_stable hb4 YA3.out
    have B4 : Hid (Below w.heap.size w u4) := B3.out.trans (hb4.mono (by omega))
    have On4 : Hid (Own.On (fun b => w1.heap.size ≤ b ∧ b < u.heap.size) u4 a (cs [.slice o0 n0 k0, .slice o1 n1 k1, .slice o2 n2 k2, .slice o3 n3 k3, .int .i64 a.2.2.2.2])) := Own.on_same HON2.out (fun b hb => (hb4.block b (by omega)).trans (BU3.out.block b hb.2))
    clear hb4 HON2
    rcases idx_cases a.2.2.2.1 (fun p : DClaimPart => p.1 == x) with hik | ⟨k, hk, hik⟩
    · rw [hik]
      obtain ⟨y0, _⟩ := cell_row XB4.out 0 _ rfl
      obtain ⟨y1, _⟩ := cell_row XB4.out 1 _ rfl
      obtain ⟨y2, _⟩ := cell_row XB4.out 2 _ rfl
      obtain ⟨y3, _⟩ := cell_row XB4.out 3 _ rfl
      obtain ⟨y4, _⟩ := cell_row XB4.out 4 _ rfl
      simp only [List.getElem_toArray, List.getElem_cons_zero, List.getElem_cons_succ] at y0 y1 y2 y3 y4
      obtain ⟨t0, f0⟩ := cell_row YA4.out 0 _ rfl
      obtain ⟨t1, f1⟩ := cell_row YA4.out 1 _ rfl
      obtain ⟨t2, f2⟩ := cell_row YA4.out 2 _ rfl
      obtain ⟨t3, f3⟩ := cell_row YA4.out 3 _ rfl
      obtain ⟨t4, f4⟩ := cell_row YA4.out 4 _ rfl
      simp only [List.getElem_toArray, List.getElem_cons_zero, List.getElem_cons_succ] at t0 t1 t2 t3 t4
      obtain ⟨F0, F1, F2, F3⟩ := ret_5 YA4.out (.slice o0 n0 k0) (.slice o1 n1 k1) (.slice o2 n2 k2) (.slice o3 n3 k3) (.int .i64 a.2.2.2.2)
      have g0 := (cell_row F0 0 _ rfl).1
      have g1 := (cell_row F0 1 _ rfl).1
      have g2 := (cell_row F0 2 _ rfl).1
      have g3 := (cell_row F0 3 _ rfl).1
      have g4 := (cell_row F0 4 _ rfl).1
      simp only [List.getElem_toArray, List.getElem_cons_zero, List.getElem_cons_succ] at g0 g1 g2 g3 g4
      have ONF : Hid (Own.On (fun b => w.heap.size ≤ b ∧ b < (((((u4.setCell ⟨w.heap.size + 1, 0, none⟩ (.slice o0 n0 k0)).setCell ⟨w.heap.size + 1, 1, none⟩ (.slice o1 n1 k1)).setCell ⟨w.heap.size + 1, 2, none⟩ (.slice o2 n2 k2)).setCell ⟨w.heap.size + 1, 3, none⟩ (.slice o3 n3 k3)).setCell ⟨w.heap.size + 1, 4, none⟩ (.int .i64 a.2.2.2.2)).heap.size) (((((u4.setCell ⟨w.heap.size + 1, 0, none⟩ (.slice o0 n0 k0)).setCell ⟨w.heap.size + 1, 1, none⟩ (.slice o1 n1 k1)).setCell ⟨w.heap.size + 1, 2, none⟩ (.slice o2 n2 k2)).setCell ⟨w.heap.size + 1, 3, none⟩ (.slice o3 n3 k3)).setCell ⟨w.heap.size + 1, 4, none⟩ (.int .i64 a.2.2.2.2)) (stopB a x) (cs [.slice o0 n0 k0, .slice o1 n1 k1, .slice o2 n2 k2, .slice o3 n3 k3, .int .i64 a.2.2.2.2])) := by
        show Own.On _ _ _ _
        rw [(stop_no hbk hik).1]
        exact Own.on_up (Own.on_same (On4.out) (fun b hb => F1 b (by omega))) (fun b hb => ⟨by omega, by rw [F2]; omega⟩)
      have BF : Hid (Below w.heap.size w (((((u4.setCell ⟨w.heap.size + 1, 0, none⟩ (.slice o0 n0 k0)).setCell ⟨w.heap.size + 1, 1, none⟩ (.slice o1 n1 k1)).setCell ⟨w.heap.size + 1, 2, none⟩ (.slice o2 n2 k2)).setCell ⟨w.heap.size + 1, 3, none⟩ (.slice o3 n3 k3)).setCell ⟨w.heap.size + 1, 4, none⟩ (.int .i64 a.2.2.2.2))) := (B4.out).trans (F3.mono (by omega))
      have EQC : Hid (stopC a x = 3) := (stop_no hbk hik).2
      go_wp2_with fail
      exact bodyPost_ret (v := .tuple #[.agg #[.slice o0 n0 k0, .slice o1 n1 k1, .slice o2 n2 k2, .slice o3 n3 k3, .int .i64 a.2.2.2.2], .int .i64 3]) (by simp [results, Tryz.results5, go_sem, g0, g1, g2, g3, g4]) rfl ⟨cs [.slice o0 n0 k0, .slice o1 n1 k1, .slice o2 n2 k2, .slice o3 n3 k3, .int .i64 a.2.2.2.2], by rw [EQC.out]; rfl, ONF.out, BF.out⟩
    · rw [hik]
      rw [EN3.out] at hk
      obtain ⟨gp, off, cap, xx, eg3, hgp, hcl, hfz, hst⟩ := stop_store On4.out (fun b hb => by omega) (show k < a.2.2.2.1.length by rw [EN3.out]; exact hk)
      have eg3 : Value.slice o3 n3 k3 = .slice (some ⟨gp, off, none⟩) a.2.2.2.1.length cap := eg3
      have i1 : o3 = some ⟨gp, off, none⟩ := by injection eg3
      clear eg3
      subst i1
      have HST : Hid _ := hst
      clear hst
      obtain ⟨yb3, _⟩ := cell_row XB4.out 3 _ rfl
      simp only [List.getElem_toArray, List.getElem_cons_zero, List.getElem_cons_succ] at yb3
      go_upto_region 8 with fail
      obtain ⟨U5, hU5⟩ : ∃ V, V = u4.setCell ⟨gp, off + k * 7 + 6, none⟩ (.bool true) := ⟨_, rfl⟩
      rw [← hU5]
      have s5 : U5.heap.size ≤ u4.heap.size ∧ u4.heap.size ≤ U5.heap.size := by rw [hU5]; simp
      have XB5 : Hid (U5.heap[u.heap.size]? = some (.cells #[.slice o0 n0 k0, .slice o1 n1 k1, .slice o2 n2 k2, .slice (some ⟨gp, off, none⟩) n3 k3, .int .i64 a.2.2.2.2] 33 (0, 0))) := by rw [hU5]; exact (Below.heap_setCell _ _ _ _ (by show u.heap.size ≠ gp; omega)).trans XB4.out
      have YB5 : Hid (U5.heap[w.heap.size + 1]? = some (.cells #[.slice none 0 0, .slice none 0 0, .slice none 0 0, .slice none 0 0, .int .i64 0] 33 (0, 0))) := by rw [hU5]; exact (Below.heap_setCell _ _ _ _ (by show w.heap.size + 1 ≠ gp; omega)).trans YA4.out
      have On5 : Hid (Own.On (fun b => w1.heap.size ≤ b ∧ b < u.heap.size) U5 (stopAt a k) (cs [.slice o0 n0 k0, .slice o1 n1 k1, .slice o2 n2 k2, .slice (some ⟨gp, off, none⟩) n3 k3, .int .i64 a.2.2.2.2])) := by rw [hU5]; exact HST.out
      have B5 : Hid (Below w.heap.size w U5) := by rw [hU5]; exact Below.setCell (p := ⟨gp, off + k * 7 + 6, none⟩) B4.out (by show w.heap.size ≤ gp; omega) _
      clear hU5 hcl hfz yb3 HST
      obtain ⟨y0, _⟩ := cell_row XB5.out 0 _ rfl
      obtain ⟨y1, _⟩ := cell_row XB5.out 1 _ rfl
      obtain ⟨y2, _⟩ := cell_row XB5.out 2 _ rfl
      obtain ⟨y3, _⟩ := cell_row XB5.out 3 _ rfl
      obtain ⟨y4, _⟩ := cell_row XB5.out 4 _ rfl
      simp only [List.getElem_toArray, List.getElem_cons_zero, List.getElem_cons_succ] at y0 y1 y2 y3 y4
      obtain ⟨t0, f0⟩ := cell_row YB5.out 0 _ rfl
      obtain ⟨t1, f1⟩ := cell_row YB5.out 1 _ rfl
      obtain ⟨t2, f2⟩ := cell_row YB5.out 2 _ rfl
      obtain ⟨t3, f3⟩ := cell_row YB5.out 3 _ rfl
      obtain ⟨t4, f4⟩ := cell_row YB5.out 4 _ rfl
      simp only [List.getElem_toArray, List.getElem_cons_zero, List.getElem_cons_succ] at t0 t1 t2 t3 t4
      obtain ⟨F0, F1, F2, F3⟩ := ret_5 YB5.out (.slice o0 n0 k0) (.slice o1 n1 k1) (.slice o2 n2 k2) (.slice (some ⟨gp, off, none⟩) n3 k3) (.int .i64 a.2.2.2.2)
      have g0 := (cell_row F0 0 _ rfl).1
      have g1 := (cell_row F0 1 _ rfl).1
      have g2 := (cell_row F0 2 _ rfl).1
      have g3 := (cell_row F0 3 _ rfl).1
      have g4 := (cell_row F0 4 _ rfl).1
      simp only [List.getElem_toArray, List.getElem_cons_zero, List.getElem_cons_succ] at g0 g1 g2 g3 g4
      have ONF : Hid (Own.On (fun b => w.heap.size ≤ b ∧ b < (((((U5.setCell ⟨w.heap.size + 1, 0, none⟩ (.slice o0 n0 k0)).setCell ⟨w.heap.size + 1, 1, none⟩ (.slice o1 n1 k1)).setCell ⟨w.heap.size + 1, 2, none⟩ (.slice o2 n2 k2)).setCell ⟨w.heap.size + 1, 3, none⟩ (.slice (some ⟨gp, off, none⟩) n3 k3)).setCell ⟨w.heap.size + 1, 4, none⟩ (.int .i64 a.2.2.2.2)).heap.size) (((((U5.setCell ⟨w.heap.size + 1, 0, none⟩ (.slice o0 n0 k0)).setCell ⟨w.heap.size + 1, 1, none⟩ (.slice o1 n1 k1)).setCell ⟨w.heap.size + 1, 2, none⟩ (.slice o2 n2 k2)).setCell ⟨w.heap.size + 1, 3, none⟩ (.slice (some ⟨gp, off, none⟩) n3 k3)).setCell ⟨w.heap.size + 1, 4, none⟩ (.int .i64 a.2.2.2.2)) (stopB a x) (cs [.slice o0 n0 k0, .slice o1 n1 k1, .slice o2 n2 k2, .slice (some ⟨gp, off, none⟩) n3 k3, .int .i64 a.2.2.2.2])) := by
        show Own.On _ _ _ _
        rw [(stop_yes hbk hik).1]
        exact Own.on_up (Own.on_same (On5.out) (fun b hb => F1 b (by omega))) (fun b hb => ⟨by omega, by rw [F2]; omega⟩)
      have BF : Hid (Below w.heap.size w (((((U5.setCell ⟨w.heap.size + 1, 0, none⟩ (.slice o0 n0 k0)).setCell ⟨w.heap.size + 1, 1, none⟩ (.slice o1 n1 k1)).setCell ⟨w.heap.size + 1, 2, none⟩ (.slice o2 n2 k2)).setCell ⟨w.heap.size + 1, 3, none⟩ (.slice (some ⟨gp, off, none⟩) n3 k3)).setCell ⟨w.heap.size + 1, 4, none⟩ (.int .i64 a.2.2.2.2))) := (B5.out).trans (F3.mono (by omega))
      have EQC : Hid (stopC a x = 0) := (stop_yes hbk hik).2
      go_wp2_with fail
      exact bodyPost_ret (v := .tuple #[.agg #[.slice o0 n0 k0, .slice o1 n1 k1, .slice o2 n2 k2, .slice (some ⟨gp, off, none⟩) n3 k3, .int .i64 a.2.2.2.2], .int .i64 0]) (by simp [results, Tryz.results5, go_sem, g0, g1, g2, g3, g4]) rfl ⟨cs [.slice o0 n0 k0, .slice o1 n1 k1, .slice o2 n2 k2, .slice (some ⟨gp, off, none⟩) n3 k3, .int .i64 a.2.2.2.2], by rw [EQC.out]; rfl, ONF.out, BF.out⟩

noncomputable def partAt' (a : DClaimBook) (x : Int) : Int := if bookS a.1 a.2.1 a.2.2.1 a.2.2.2.1 a.2.2.2.2 then idxI a.2.2.2.1 (fun p : DClaimPart => p.1 == x) else -1

set_option maxRecDepth 100000 in
set_option maxHeartbeats 8000000 in
theorem partOf_any (S : Nat → Prop) (a : DClaimBook) (c : Nat → Value) (x : Int) (w : World) (h : Lay.At S w a c) (hS : ∀ b, S b → b < w.heap.size) (_hm : Lay.tot a ≤ 1048576) :
    Calls Tryz.prog 22 #[.agg #[c 0, c 1, c 2, c 3, c 4], .int .i64 x] w fun e w' => e = .returned (.tuple #[.int .i64 (partAt' a x), .int .i64 (stopC a x)]) ∧ Below w.heap.size w w' := by
  have HA : Hid (∀ w', Below w.heap.size w w' → Lay.At S w' a c) := fun w' hb => Lay.same h (Same.of_below hb hS)
  have HC4 : Hid (c 4 = .int .i64 a.2.2.2.2) := (at_DClaimBook.1 h).2.2.2.2.1
  have HB3 : Hid (-9223372036854775808 ≤ a.2.2.2.2 ∧ a.2.2.2.2 ≤ 9223372036854775807) := (at_DClaimBook.1 h).2.2.2.2.2
  clear h
  obtain ⟨W, hW⟩ : ∃ W, W = (w.alloc (.cells #[c 0, c 1, c 2, c 3, c 4] 33)) := ⟨_, rfl⟩
  have BW : Hid (Below w.heap.size w W) := by rw [hW]; exact (Below.refl _ _).alloc (Nat.le_refl _) _
  have sW : w.heap.size + 1 ≤ W.heap.size := by rw [hW]; simp
  have XA0 : Hid (W.heap[w.heap.size]? = some (.cells #[c 0, c 1, c 2, c 3, c 4] 33 (0, 0))) := by rw [hW]; exact heap_alloc_new w _
  have HW : Hid (W = (w.alloc (.cells #[c 0, c 1, c 2, c 3, c 4] 33))) := hW
  clear hW
  go_enter Tryz.func22, Tryz.ntmps22
  go_upto_region 1 with fail
  rw [← HW.out]
  clear HW
  have CBK : Hid _ := bookIC_any S (c 0) (c 1) (c 2) (c 3) a.2.2.2.2 a.1 a.2.1 a.2.2.1 a.2.2.2.1 W (at_DClaimBook.1 (HA.out _ BW.out)).1 (at_DClaimBook.1 (HA.out _ BW.out)).2.1 (at_DClaimBook.1 (HA.out _ BW.out)).2.2.1 (at_DClaimBook.1 (HA.out _ BW.out)).2.2.2.1 (fun b hb => by have := hS b hb; omega)
  have CBK2 := CBK.out
  rw [← HC4.out] at CBK2
  have CBK3 : Hid _ := CBK2
  clear CBK CBK2
  obtain ⟨y0, _⟩ := cell_row XA0.out 0 _ rfl
  obtain ⟨y1, _⟩ := cell_row XA0.out 1 _ rfl
  obtain ⟨y2, _⟩ := cell_row XA0.out 2 _ rfl
  obtain ⟨y3, _⟩ := cell_row XA0.out 3 _ rfl
  obtain ⟨y4, _⟩ := cell_row XA0.out 4 _ rfl
  simp only [List.getElem_toArray, List.getElem_cons_zero, List.getElem_cons_succ] at y0 y1 y2 y3 y4
  go_wp2_with fail
  refine Calls.mono CBK3.out ?_
  rintro e w1 ⟨rfl, hb1⟩
  clear y0 y1 y2 y3 y4 CBK3
  have B1 : Hid (Below w.heap.size w w1) := BW.out.trans (hb1.mono (by omega))
  have s1 := hb1.size
  have XA1 : Hid _ := box_stable hb1 XA0.out
  clear hb1
  cases hbk : bookS a.1 a.2.1 a.2.2.1 a.2.2.2.1 a.2.2.2.2
  · have EQ : Hid (partAt' a x = -1 ∧ stopC a x = 1) := ⟨by unfold partAt'; rw [hbk]; rfl, (stop_bad x hbk).2⟩
    go_wp2_with fail
    exact bodyPost_ret (v := .tuple #[.int .i64 (-1), .int .i64 1]) (by simp [results, Tryz.results22, go_sem]) rfl ⟨by rw [EQ.out.1, EQ.out.2], B1.out⟩
  · obtain ⟨y0, _⟩ := cell_row XA1.out 0 _ rfl
    obtain ⟨y1, _⟩ := cell_row XA1.out 1 _ rfl
    obtain ⟨y2, _⟩ := cell_row XA1.out 2 _ rfl
    obtain ⟨y3, _⟩ := cell_row XA1.out 3 _ rfl
    obtain ⟨y4, _⟩ := cell_row XA1.out 4 _ rfl
    simp only [List.getElem_toArray, List.getElem_cons_zero, List.getElem_cons_succ] at y0 y1 y2 y3 y4
    have CT : Hid _ := partAtI_any S (c 0) (c 1) (c 2) (c 3) (c 4) a.2.2.2.1 x w1 (at_DClaimBook.1 (HA.out _ B1.out)).2.2.2.1 (fun b hb => by have := hS b hb; omega)
    go_wp2_with fail
    refine Calls.mono CT.out ?_
    rintro e u4 ⟨rfl, hb4⟩
    clear y0 y1 y2 y3 y4 CT
    have B4 : Hid (Below w.heap.size w u4) := B1.out.trans (hb4.mono (by omega))
    clear hb4
    have EP : Hid (partAt' a x = idxI a.2.2.2.1 (fun p : DClaimPart => p.1 == x)) := by show _ = _; unfold partAt'; rw [hbk]; rfl
    rcases idx_cases a.2.2.2.1 (fun p : DClaimPart => p.1 == x) with hik | ⟨k, hk, hik⟩
    · have EQ : Hid (partAt' a x = -1 ∧ stopC a x = 3) := ⟨EP.out.trans hik, (stop_no hbk hik).2⟩
      rw [hik]
      go_wp2_with fail
      exact bodyPost_ret (v := .tuple #[.int .i64 (-1), .int .i64 3]) (by simp [results, Tryz.results22, go_sem]) rfl ⟨by rw [EQ.out.1, EQ.out.2], B4.out⟩
    · have EQ : Hid (partAt' a x = (k : Nat) ∧ stopC a x = 0) := ⟨EP.out.trans hik, (stop_yes hbk hik).2⟩
      rw [hik]
      go_wp2_with fail
      exact bodyPost_ret (v := .tuple #[.int .i64 (k : Nat), .int .i64 0]) (by simp [results, Tryz.results22, go_sem]) rfl ⟨by rw [EQ.out.1, EQ.out.2], B4.out⟩

set_option maxRecDepth 100000 in
set_option maxHeartbeats 8000000 in
theorem stays_any (S : Nat → Prop) (a : DClaimBook) (c : Nat → Value) (x : Int) (w : World) (h : Lay.At S w a c) (hS : ∀ b, S b → b < w.heap.size) (hm : Lay.tot a ≤ 1048576) (hx : x = 1 ∨ x = 3) :
    Calls Tryz.prog 23 #[.agg #[c 0, c 1, c 2, c 3, c 4], .int .i64 x] w fun e w' => ∃ g : Nat → Value, e = .returned (.tuple #[.agg #[g 0, g 1, g 2, g 3, g 4], .int .i64 x]) ∧ Own.On (fun b => w.heap.size ≤ b ∧ b < w'.heap.size) w' (if x = 1 then noBook else a) g ∧ Below w.heap.size w w' := by
  have HA : Hid (∀ w', Below w.heap.size w w' → Lay.At S w' a c) := fun w' hb => Lay.same h (Same.of_below hb hS)
  have HC4 : Hid (c 4 = .int .i64 a.2.2.2.2) := (at_DClaimBook.1 h).2.2.2.2.1
  have HB3 : Hid (-9223372036854775808 ≤ a.2.2.2.2 ∧ a.2.2.2.2 ≤ 9223372036854775807) := (at_DClaimBook.1 h).2.2.2.2.2
  clear h
  obtain ⟨W, hW⟩ : ∃ W, W = ((w.alloc (.cells #[c 0, c 1, c 2, c 3, c 4] 33)).alloc (.cells #[.slice none 0 0, .slice none 0 0, .slice none 0 0, .slice none 0 0, .int .i64 0] 33)) := ⟨_, rfl⟩
  have BW : Hid (Below w.heap.size w W) := by rw [hW]; exact ((Below.refl _ _).alloc (Nat.le_refl _) _).alloc (by simp) _
  have sW : w.heap.size + 2 ≤ W.heap.size := by rw [hW]; simp
  have XA0 : Hid (W.heap[w.heap.size]? = some (.cells #[c 0, c 1, c 2, c 3, c 4] 33 (0, 0))) := by rw [hW]; exact (Below.heap_alloc _ _ _ (by simp)).trans (heap_alloc_new w _)
  have YA0 : Hid (W.heap[w.heap.size + 1]? = some (.cells #[.slice none 0 0, .slice none 0 0, .slice none 0 0, .slice none 0 0, .int .i64 0] 33 (0, 0))) := by rw [hW]; have := heap_alloc_new (w.alloc (.cells #[c 0, c 1, c 2, c 3, c 4] 33)) (.cells #[.slice none 0 0, .slice none 0 0, .slice none 0 0, .slice none 0 0, .int .i64 0] 33); rw [World.size_alloc] at this; exact this
  have HW : Hid (W = ((w.alloc (.cells #[c 0, c 1, c 2, c 3, c 4] 33)).alloc (.cells #[.slice none 0 0, .slice none 0 0, .slice none 0 0, .slice none 0 0, .int .i64 0] 33))) := hW
  clear hW
  go_enter Tryz.func23, Tryz.ntmps23
  go_upto_region 1 with fail
  rw [← HW.out]
  clear HW
  rcases hx with rfl | rfl
  · obtain ⟨t0, f0⟩ := cell_row YA0.out 0 _ rfl
    obtain ⟨t1, f1⟩ := cell_row YA0.out 1 _ rfl
    obtain ⟨t2, f2⟩ := cell_row YA0.out 2 _ rfl
    obtain ⟨t3, f3⟩ := cell_row YA0.out 3 _ rfl
    obtain ⟨t4, f4⟩ := cell_row YA0.out 4 _ rfl
    simp only [List.getElem_toArray, List.getElem_cons_zero, List.getElem_cons_succ] at t0 t1 t2 t3 t4
    obtain ⟨F0, F1, F2, F3⟩ := ret_5 YA0.out (.slice none 0 0) (.slice none 0 0) (.slice none 0 0) (.slice none 0 0) (.int .i64 0)
    have g0 := (cell_row F0 0 _ rfl).1
    have g1 := (cell_row F0 1 _ rfl).1
    have g2 := (cell_row F0 2 _ rfl).1
    have g3 := (cell_row F0 3 _ rfl).1
    have g4 := (cell_row F0 4 _ rfl).1
    simp only [List.getElem_toArray, List.getElem_cons_zero, List.getElem_cons_succ] at g0 g1 g2 g3 g4
    have ONF : Hid (Own.On (fun b => w.heap.size ≤ b ∧ b < (((((W.setCell ⟨w.heap.size + 1, 0, none⟩ (.slice none 0 0)).setCell ⟨w.heap.size + 1, 1, none⟩ (.slice none 0 0)).setCell ⟨w.heap.size + 1, 2, none⟩ (.slice none 0 0)).setCell ⟨w.heap.size + 1, 3, none⟩ (.slice none 0 0)).setCell ⟨w.heap.size + 1, 4, none⟩ (.int .i64 0)).heap.size) (((((W.setCell ⟨w.heap.size + 1, 0, none⟩ (.slice none 0 0)).setCell ⟨w.heap.size + 1, 1, none⟩ (.slice none 0 0)).setCell ⟨w.heap.size + 1, 2, none⟩ (.slice none 0 0)).setCell ⟨w.heap.size + 1, 3, none⟩ (.slice none 0 0)).setCell ⟨w.heap.size + 1, 4, none⟩ (.int .i64 0)) noBook (cs [.slice none 0 0, .slice none 0 0, .slice none 0 0, .slice none 0 0, .int .i64 0])) := Own.on_up (Own.on_same (on_noBook (fun _ => False) W) (fun _ h => h.elim)) (fun _ h => h.elim)
    have BF : Hid (Below w.heap.size w (((((W.setCell ⟨w.heap.size + 1, 0, none⟩ (.slice none 0 0)).setCell ⟨w.heap.size + 1, 1, none⟩ (.slice none 0 0)).setCell ⟨w.heap.size + 1, 2, none⟩ (.slice none 0 0)).setCell ⟨w.heap.size + 1, 3, none⟩ (.slice none 0 0)).setCell ⟨w.heap.size + 1, 4, none⟩ (.int .i64 0))) := (BW.out).trans (F3.mono (by omega))
    go_wp2_with fail
    exact bodyPost_ret (v := .tuple #[.agg #[.slice none 0 0, .slice none 0 0, .slice none 0 0, .slice none 0 0, .int .i64 0], .int .i64 1]) (by simp [results, Tryz.results23, go_sem, g0, g1, g2, g3, g4]) rfl ⟨cs [.slice none 0 0, .slice none 0 0, .slice none 0 0, .slice none 0 0, .int .i64 0], rfl, ONF.out, BF.out⟩
  · obtain ⟨y0, _⟩ := cell_row XA0.out 0 _ rfl
    obtain ⟨y1, _⟩ := cell_row XA0.out 1 _ rfl
    obtain ⟨y2, _⟩ := cell_row XA0.out 2 _ rfl
    obtain ⟨y3, _⟩ := cell_row XA0.out 3 _ rfl
    obtain ⟨y4, _⟩ := cell_row XA0.out 4 _ rfl
    simp only [List.getElem_toArray, List.getElem_cons_zero, List.getElem_cons_succ] at y0 y1 y2 y3 y4
    have CP : Hid _ := fresh22_any S a c W (HA.out _ BW.out) (fun b hb => by have := hS b hb; omega) hm
    go_wp2_with fail
    refine Calls.mono CP.out ?_
    rintro e u ⟨g, rfl, hg, hb2⟩
    clear y0 y1 y2 y3 y4 CP
    have HON : Hid (Own.On (fun b => W.heap.size ≤ b ∧ b < u.heap.size) u a g) := hg
    obtain ⟨d0, d1, d2, d3, ⟨ge4, _⟩⟩ := at_DClaimBook.1 (Own.on_at hg)
    clear hg
    obtain ⟨o0, k0, ge0, _⟩ := d0
    obtain ⟨n0, en0⟩ : ∃ n, a.1.length = n := ⟨_, rfl⟩
    rw [en0] at ge0
    obtain ⟨o1, k1, ge1, _⟩ := d1
    obtain ⟨n1, en1⟩ : ∃ n, a.2.1.length = n := ⟨_, rfl⟩
    rw [en1] at ge1
    obtain ⟨o2, k2, ge2, _⟩ := d2
    obtain ⟨n2, en2⟩ : ∃ n, a.2.2.1.length = n := ⟨_, rfl⟩
    rw [en2] at ge2
    obtain ⟨o3, k3, ge3, _⟩ := d3
    obtain ⟨n3, en3⟩ : ∃ n, a.2.2.2.1.length = n := ⟨_, rfl⟩
    rw [en3] at ge3
    rw [ge0, ge1, ge2, ge3, ge4]
    have HON2 : Hid (Own.On (fun b => W.heap.size ≤ b ∧ b < u.heap.size) u a (cs [.slice o0 n0 k0, .slice o1 n1 k1, .slice o2 n2 k2, .slice o3 n3 k3, .int .i64 a.2.2.2.2])) := Own.on_ext HON.out (fun j hj => by rw [width_DClaimBook] at hj; rcases (show j = 0 ∨ j = 1 ∨ j = 2 ∨ j = 3 ∨ j = 4 by omega) with rfl | rfl | rfl | rfl | rfl <;> first | exact ge0.symm | exact ge1.symm | exact ge2.symm | exact ge3.symm | exact ge4.symm)
    have EN3 : Hid (a.2.2.2.1.length = n3) := en3
    clear HON ge0 ge1 ge2 ge3 ge4 en0 en1 en2 en3
    have s2 := hb2.size
    have B2 : Hid (Below w.heap.size w u) := BW.out.trans (hb2.mono (by omega))
    have YA2 : Hid _ := box_stable hb2 YA0.out
    clear hb2
    obtain ⟨t0, f0⟩ := cell_row YA2.out 0 _ rfl
    obtain ⟨t1, f1⟩ := cell_row YA2.out 1 _ rfl
    obtain ⟨t2, f2⟩ := cell_row YA2.out 2 _ rfl
    obtain ⟨t3, f3⟩ := cell_row YA2.out 3 _ rfl
    obtain ⟨t4, f4⟩ := cell_row YA2.out 4 _ rfl
    simp only [List.getElem_toArray, List.getElem_cons_zero, List.getElem_cons_succ] at t0 t1 t2 t3 t4
    obtain ⟨F0, F1, F2, F3⟩ := ret_5 YA2.out (.slice o0 n0 k0) (.slice o1 n1 k1) (.slice o2 n2 k2) (.slice o3 n3 k3) (.int .i64 a.2.2.2.2)
    have g0 := (cell_row F0 0 _ rfl).1
    have g1 := (cell_row F0 1 _ rfl).1
    have g2 := (cell_row F0 2 _ rfl).1
    have g3 := (cell_row F0 3 _ rfl).1
    have g4 := (cell_row F0 4 _ rfl).1
    simp only [List.getElem_toArray, List.getElem_cons_zero, List.getElem_cons_succ] at g0 g1 g2 g3 g4
    have ONF : Hid (Own.On (fun b => w.heap.size ≤ b ∧ b < (((((u.setCell ⟨w.heap.size + 1, 0, none⟩ (.slice o0 n0 k0)).setCell ⟨w.heap.size + 1, 1, none⟩ (.slice o1 n1 k1)).setCell ⟨w.heap.size + 1, 2, none⟩ (.slice o2 n2 k2)).setCell ⟨w.heap.size + 1, 3, none⟩ (.slice o3 n3 k3)).setCell ⟨w.heap.size + 1, 4, none⟩ (.int .i64 a.2.2.2.2)).heap.size) (((((u.setCell ⟨w.heap.size + 1, 0, none⟩ (.slice o0 n0 k0)).setCell ⟨w.heap.size + 1, 1, none⟩ (.slice o1 n1 k1)).setCell ⟨w.heap.size + 1, 2, none⟩ (.slice o2 n2 k2)).setCell ⟨w.heap.size + 1, 3, none⟩ (.slice o3 n3 k3)).setCell ⟨w.heap.size + 1, 4, none⟩ (.int .i64 a.2.2.2.2)) a (cs [.slice o0 n0 k0, .slice o1 n1 k1, .slice o2 n2 k2, .slice o3 n3 k3, .int .i64 a.2.2.2.2])) := Own.on_up (Own.on_same (HON2.out) (fun b hb => F1 b (by omega))) (fun b hb => ⟨by omega, by rw [F2]; omega⟩)
    have BF : Hid (Below w.heap.size w (((((u.setCell ⟨w.heap.size + 1, 0, none⟩ (.slice o0 n0 k0)).setCell ⟨w.heap.size + 1, 1, none⟩ (.slice o1 n1 k1)).setCell ⟨w.heap.size + 1, 2, none⟩ (.slice o2 n2 k2)).setCell ⟨w.heap.size + 1, 3, none⟩ (.slice o3 n3 k3)).setCell ⟨w.heap.size + 1, 4, none⟩ (.int .i64 a.2.2.2.2))) := (B2.out).trans (F3.mono (by omega))
    go_wp2_with fail
    exact bodyPost_ret (v := .tuple #[.agg #[.slice o0 n0 k0, .slice o1 n1 k1, .slice o2 n2 k2, .slice o3 n3 k3, .int .i64 a.2.2.2.2], .int .i64 3]) (by simp [results, Tryz.results23, go_sem, g0, g1, g2, g3, g4]) rfl ⟨cs [.slice o0 n0 k0, .slice o1 n1 k1, .slice o2 n2 k2, .slice o3 n3 k3, .int .i64 a.2.2.2.2], rfl, ONF.out, BF.out⟩

set_option maxRecDepth 100000 in
set_option maxHeartbeats 8000000 in
theorem stopI_any (S : Nat → Prop) (a : DClaimBook) (c : Nat → Value) (x : Int) (w : World) (h : Lay.At S w a c) (hS : ∀ b, S b → b < w.heap.size) (hm : Lay.tot a ≤ 1048576) :
    Calls Tryz.prog 7 #[.agg #[c 0, c 1, c 2, c 3, c 4], .int .i64 x] w fun e w' => ∃ g : Nat → Value, e = .returned (.tuple #[.agg #[g 0, g 1, g 2, g 3, g 4], .int .i64 (stopC a x)]) ∧ Own.On (fun b => w.heap.size ≤ b ∧ b < w'.heap.size) w' (stopB a x) g ∧ Below w.heap.size w w' := by
  have HA : Hid (∀ w', Below w.heap.size w w' → Lay.At S w' a c) := fun w' hb => Lay.same h (Same.of_below hb hS)
  have HC4 : Hid (c 4 = .int .i64 a.2.2.2.2) := (at_DClaimBook.1 h).2.2.2.2.1
  have HB3 : Hid (-9223372036854775808 ≤ a.2.2.2.2 ∧ a.2.2.2.2 ≤ 9223372036854775807) := (at_DClaimBook.1 h).2.2.2.2.2
  clear h
  obtain ⟨W, hW⟩ : ∃ W, W = ((w.alloc (.cells #[c 0, c 1, c 2, c 3, c 4] 33)).alloc (.cells #[.slice none 0 0, .slice none 0 0, .slice none 0 0, .slice none 0 0, .int .i64 0] 33)) := ⟨_, rfl⟩
  have BW : Hid (Below w.heap.size w W) := by rw [hW]; exact ((Below.refl _ _).alloc (Nat.le_refl _) _).alloc (by simp) _
  have sW : w.heap.size + 2 ≤ W.heap.size := by rw [hW]; simp
  have XA0 : Hid (W.heap[w.heap.size]? = some (.cells #[c 0, c 1, c 2, c 3, c 4] 33 (0, 0))) := by rw [hW]; exact (Below.heap_alloc _ _ _ (by simp)).trans (heap_alloc_new w _)
  have YA0 : Hid (W.heap[w.heap.size + 1]? = some (.cells #[.slice none 0 0, .slice none 0 0, .slice none 0 0, .slice none 0 0, .int .i64 0] 33 (0, 0))) := by rw [hW]; have := heap_alloc_new (w.alloc (.cells #[c 0, c 1, c 2, c 3, c 4] 33)) (.cells #[.slice none 0 0, .slice none 0 0, .slice none 0 0, .slice none 0 0, .int .i64 0] 33); rw [World.size_alloc] at this; exact this
  have HW : Hid (W = ((w.alloc (.cells #[c 0, c 1, c 2, c 3, c 4] 33)).alloc (.cells #[.slice none 0 0, .slice none 0 0, .slice none 0 0, .slice none 0 0, .int .i64 0] 33))) := hW
  clear hW
  go_enter Tryz.func7, Tryz.ntmps7
  go_upto_region 1 with fail
  rw [← HW.out]
  clear HW
  have CPO : Hid _ := partOf_any S a c x W (HA.out _ BW.out) (fun b hb => by have := hS b hb; omega) hm
  obtain ⟨y0, _⟩ := cell_row XA0.out 0 _ rfl
  obtain ⟨y1, _⟩ := cell_row XA0.out 1 _ rfl
  obtain ⟨y2, _⟩ := cell_row XA0.out 2 _ rfl
  obtain ⟨y3, _⟩ := cell_row XA0.out 3 _ rfl
  obtain ⟨y4, _⟩ := cell_row XA0.out 4 _ rfl
  simp only [List.getElem_toArray, List.getElem_cons_zero, List.getElem_cons_succ] at y0 y1 y2 y3 y4
  go_wp2_with fail
  refine Calls.mono CPO.out ?_
  rintro e w1 ⟨rfl, hb1⟩
  clear y0 y1 y2 y3 y4 CPO
  have B1 : Hid (Below w.heap.size w w1) := BW.out.trans (hb1.mono (by omega))
  have s1 := hb1.size
  have XA1 : Hid _ := box_stable hb1 XA0.out
  have YA1 : Hid _ := box_stable hb1 YA0.out
  clear hb1
  have CASES : (stopC a x = 1 ∧ stopB a x = noBook) ∨ (stopC a x = 3 ∧ stopB a x = a) ∨ ∃ k : Nat, k < a.2.2.2.1.length ∧ stopC a x = 0 ∧ partAt' a x = (k : Nat) ∧ bookS a.1 a.2.1 a.2.2.1 a.2.2.2.1 a.2.2.2.2 = true ∧ idxI a.2.2.2.1 (fun p : DClaimPart => p.1 == x) = (k : Nat) := by
    cases hbk : bookS a.1 a.2.1 a.2.2.1 a.2.2.2.1 a.2.2.2.2
    · exact .inl ⟨(stop_bad x hbk).2, (stop_bad x hbk).1⟩
    · rcases idx_cases a.2.2.2.1 (fun p : DClaimPart => p.1 == x) with hik | ⟨k, hk, hik⟩
      · exact .inr (.inl ⟨(stop_no hbk hik).2, (stop_no hbk hik).1⟩)
      · exact .inr (.inr ⟨k, hk, (stop_yes hbk hik).2, by unfold partAt'; rw [hbk]; exact hik, rfl, hik⟩)
  have ST : ∀ y : Int, (y = 1 ∨ y = 3) → Hid _ := fun y hy => stays_any S a c y w1 (HA.out _ B1.out) (fun b hb => by have := hS b hb; omega) hm hy
  rcases CASES with ⟨hc, hb⟩ | ⟨hc, hb⟩ | ⟨k, hk, hc, hp, hbk, hik⟩
  · rw [hc]
    have ST1 := ST 1 (.inl rfl)
    clear ST
    obtain ⟨y0, _⟩ := cell_row XA1.out 0 _ rfl
    obtain ⟨y1, _⟩ := cell_row XA1.out 1 _ rfl
    obtain ⟨y2, _⟩ := cell_row XA1.out 2 _ rfl
    obtain ⟨y3, _⟩ := cell_row XA1.out 3 _ rfl
    obtain ⟨y4, _⟩ := cell_row XA1.out 4 _ rfl
    simp only [List.getElem_toArray, List.getElem_cons_zero, List.getElem_cons_succ] at y0 y1 y2 y3 y4
    go_wp2_with fail
    refine Calls.mono ST1.out ?_
    rintro e u ⟨g, rfl, hg, hb2⟩
    clear y0 y1 y2 y3 y4 ST1
    replace hg : Own.On (fun b => w1.heap.size ≤ b ∧ b < u.heap.size) u noBook g := hg
    obtain ⟨d0, d1, d2, d3, ⟨ge4, _⟩⟩ := at_DClaimBook.1 (Own.on_at hg)
    obtain ⟨o0, k0, ge0, _⟩ := d0
    obtain ⟨o1, k1, ge1, _⟩ := d1
    obtain ⟨o2, k2, ge2, _⟩ := d2
    obtain ⟨o3, k3, ge3, _⟩ := d3
    replace ge0 : g 0 = .slice o0 0 k0 := ge0
    replace ge1 : g 1 = .slice o1 0 k1 := ge1
    replace ge2 : g 2 = .slice o2 0 k2 := ge2
    replace ge3 : g 3 = .slice o3 0 k3 := ge3
    replace ge4 : g 4 = .int .i64 0 := ge4
    rw [ge0, ge1, ge2, ge3, ge4]
    have HON2 : Hid (Own.On (fun b => w1.heap.size ≤ b ∧ b < u.heap.size) u noBook (cs [.slice o0 0 k0, .slice o1 0 k1, .slice o2 0 k2, .slice o3 0 k3, .int .i64 0])) := Own.on_ext hg (fun j hj => by rw [width_DClaimBook] at hj; rcases (show j = 0 ∨ j = 1 ∨ j = 2 ∨ j = 3 ∨ j = 4 by omega) with rfl | rfl | rfl | rfl | rfl <;> first | exact ge0.symm | exact ge1.symm | exact ge2.symm | exact ge3.symm | exact ge4.symm)
    clear hg ge0 ge1 ge2 ge3 ge4
    have s2 := hb2.size
    have B2 : Hid (Below w.heap.size w u) := B1.out.trans (hb2.mono (by omega))
    have YA2 : Hid _ := box_stable hb2 YA1.out
    clear hb2
    obtain ⟨t0, f0⟩ := cell_row YA2.out 0 _ rfl
    obtain ⟨t1, f1⟩ := cell_row YA2.out 1 _ rfl
    obtain ⟨t2, f2⟩ := cell_row YA2.out 2 _ rfl
    obtain ⟨t3, f3⟩ := cell_row YA2.out 3 _ rfl
    obtain ⟨t4, f4⟩ := cell_row YA2.out 4 _ rfl
    simp only [List.getElem_toArray, List.getElem_cons_zero, List.getElem_cons_succ] at t0 t1 t2 t3 t4
    obtain ⟨F0, F1, F2, F3⟩ := ret_5 YA2.out (.slice o0 0 k0) (.slice o1 0 k1) (.slice o2 0 k2) (.slice o3 0 k3) (.int .i64 0)
    have g0 := (cell_row F0 0 _ rfl).1
    have g1 := (cell_row F0 1 _ rfl).1
    have g2 := (cell_row F0 2 _ rfl).1
    have g3 := (cell_row F0 3 _ rfl).1
    have g4 := (cell_row F0 4 _ rfl).1
    simp only [List.getElem_toArray, List.getElem_cons_zero, List.getElem_cons_succ] at g0 g1 g2 g3 g4
    have ONF : Hid (Own.On (fun b => w.heap.size ≤ b ∧ b < (((((u.setCell ⟨w.heap.size + 1, 0, none⟩ (.slice o0 0 k0)).setCell ⟨w.heap.size + 1, 1, none⟩ (.slice o1 0 k1)).setCell ⟨w.heap.size + 1, 2, none⟩ (.slice o2 0 k2)).setCell ⟨w.heap.size + 1, 3, none⟩ (.slice o3 0 k3)).setCell ⟨w.heap.size + 1, 4, none⟩ (.int .i64 0)).heap.size) (((((u.setCell ⟨w.heap.size + 1, 0, none⟩ (.slice o0 0 k0)).setCell ⟨w.heap.size + 1, 1, none⟩ (.slice o1 0 k1)).setCell ⟨w.heap.size + 1, 2, none⟩ (.slice o2 0 k2)).setCell ⟨w.heap.size + 1, 3, none⟩ (.slice o3 0 k3)).setCell ⟨w.heap.size + 1, 4, none⟩ (.int .i64 0)) (stopB a x) (cs [.slice o0 0 k0, .slice o1 0 k1, .slice o2 0 k2, .slice o3 0 k3, .int .i64 0])) := by
      show Own.On _ _ _ _
      rw [(And.intro hb hc).1]
      exact Own.on_up (Own.on_same (HON2.out) (fun b hb => F1 b (by omega))) (fun b hb => ⟨by omega, by rw [F2]; omega⟩)
    have BF : Hid (Below w.heap.size w (((((u.setCell ⟨w.heap.size + 1, 0, none⟩ (.slice o0 0 k0)).setCell ⟨w.heap.size + 1, 1, none⟩ (.slice o1 0 k1)).setCell ⟨w.heap.size + 1, 2, none⟩ (.slice o2 0 k2)).setCell ⟨w.heap.size + 1, 3, none⟩ (.slice o3 0 k3)).setCell ⟨w.heap.size + 1, 4, none⟩ (.int .i64 0))) := (B2.out).trans (F3.mono (by omega))
    have EQC : Hid (stopC a x = 1) := (And.intro hb hc).2
    go_wp2_with fail
    exact bodyPost_ret (v := .tuple #[.agg #[.slice o0 0 k0, .slice o1 0 k1, .slice o2 0 k2, .slice o3 0 k3, .int .i64 0], .int .i64 1]) (by simp [results, Tryz.results7, go_sem, g0, g1, g2, g3, g4]) rfl ⟨cs [.slice o0 0 k0, .slice o1 0 k1, .slice o2 0 k2, .slice o3 0 k3, .int .i64 0], by rw [EQC.out]; rfl, ONF.out, BF.out⟩
  · rw [hc]
    have ST1 := ST 3 (.inr rfl)
    clear ST
    obtain ⟨y0, _⟩ := cell_row XA1.out 0 _ rfl
    obtain ⟨y1, _⟩ := cell_row XA1.out 1 _ rfl
    obtain ⟨y2, _⟩ := cell_row XA1.out 2 _ rfl
    obtain ⟨y3, _⟩ := cell_row XA1.out 3 _ rfl
    obtain ⟨y4, _⟩ := cell_row XA1.out 4 _ rfl
    simp only [List.getElem_toArray, List.getElem_cons_zero, List.getElem_cons_succ] at y0 y1 y2 y3 y4
    go_wp2_with fail
    refine Calls.mono ST1.out ?_
    rintro e u ⟨g, rfl, hg, hb2⟩
    clear y0 y1 y2 y3 y4 ST1
    replace hg : Own.On (fun b => w1.heap.size ≤ b ∧ b < u.heap.size) u a g := hg
    have HON : Hid (Own.On (fun b => w1.heap.size ≤ b ∧ b < u.heap.size) u a g) := hg
    obtain ⟨d0, d1, d2, d3, ⟨ge4, _⟩⟩ := at_DClaimBook.1 (Own.on_at hg)
    clear hg
    obtain ⟨o0, k0, ge0, _⟩ := d0
    obtain ⟨n0, en0⟩ : ∃ n, a.1.length = n := ⟨_, rfl⟩
    rw [en0] at ge0
    obtain ⟨o1, k1, ge1, _⟩ := d1
    obtain ⟨n1, en1⟩ : ∃ n, a.2.1.length = n := ⟨_, rfl⟩
    rw [en1] at ge1
    obtain ⟨o2, k2, ge2, _⟩ := d2
    obtain ⟨n2, en2⟩ : ∃ n, a.2.2.1.length = n := ⟨_, rfl⟩
    rw [en2] at ge2
    obtain ⟨o3, k3, ge3, _⟩ := d3
    obtain ⟨n3, en3⟩ : ∃ n, a.2.2.2.1.length = n := ⟨_, rfl⟩
    rw [en3] at ge3
    rw [ge0, ge1, ge2, ge3, ge4]
    have HON2 : Hid (Own.On (fun b => w1.heap.size ≤ b ∧ b < u.heap.size) u a (cs [.slice o0 n0 k0, .slice o1 n1 k1, .slice o2 n2 k2, .slice o3 n3 k3, .int .i64 a.2.2.2.2])) := Own.on_ext HON.out (fun j hj => by rw [width_DClaimBook] at hj; rcases (show j = 0 ∨ j = 1 ∨ j = 2 ∨ j = 3 ∨ j = 4 by omega) with rfl | rfl | rfl | rfl | rfl <;> first | exact ge0.symm | exact ge1.symm | exact ge2.symm | exact ge3.symm | exact ge4.symm)
    have EN3 : Hid (a.2.2.2.1.length = n3) := en3
    clear HON ge0 ge1 ge2 ge3 ge4 en0 en1 en2 en3
    have s2 := hb2.size
    have B2 : Hid (Below w.heap.size w u) := B1.out.trans (hb2.mono (by omega))
    have YA2 : Hid _ := box_stable hb2 YA1.out
    clear hb2
    obtain ⟨t0, f0⟩ := cell_row YA2.out 0 _ rfl
    obtain ⟨t1, f1⟩ := cell_row YA2.out 1 _ rfl
    obtain ⟨t2, f2⟩ := cell_row YA2.out 2 _ rfl
    obtain ⟨t3, f3⟩ := cell_row YA2.out 3 _ rfl
    obtain ⟨t4, f4⟩ := cell_row YA2.out 4 _ rfl
    simp only [List.getElem_toArray, List.getElem_cons_zero, List.getElem_cons_succ] at t0 t1 t2 t3 t4
    obtain ⟨F0, F1, F2, F3⟩ := ret_5 YA2.out (.slice o0 n0 k0) (.slice o1 n1 k1) (.slice o2 n2 k2) (.slice o3 n3 k3) (.int .i64 a.2.2.2.2)
    have g0 := (cell_row F0 0 _ rfl).1
    have g1 := (cell_row F0 1 _ rfl).1
    have g2 := (cell_row F0 2 _ rfl).1
    have g3 := (cell_row F0 3 _ rfl).1
    have g4 := (cell_row F0 4 _ rfl).1
    simp only [List.getElem_toArray, List.getElem_cons_zero, List.getElem_cons_succ] at g0 g1 g2 g3 g4
    have ONF : Hid (Own.On (fun b => w.heap.size ≤ b ∧ b < (((((u.setCell ⟨w.heap.size + 1, 0, none⟩ (.slice o0 n0 k0)).setCell ⟨w.heap.size + 1, 1, none⟩ (.slice o1 n1 k1)).setCell ⟨w.heap.size + 1, 2, none⟩ (.slice o2 n2 k2)).setCell ⟨w.heap.size + 1, 3, none⟩ (.slice o3 n3 k3)).setCell ⟨w.heap.size + 1, 4, none⟩ (.int .i64 a.2.2.2.2)).heap.size) (((((u.setCell ⟨w.heap.size + 1, 0, none⟩ (.slice o0 n0 k0)).setCell ⟨w.heap.size + 1, 1, none⟩ (.slice o1 n1 k1)).setCell ⟨w.heap.size + 1, 2, none⟩ (.slice o2 n2 k2)).setCell ⟨w.heap.size + 1, 3, none⟩ (.slice o3 n3 k3)).setCell ⟨w.heap.size + 1, 4, none⟩ (.int .i64 a.2.2.2.2)) (stopB a x) (cs [.slice o0 n0 k0, .slice o1 n1 k1, .slice o2 n2 k2, .slice o3 n3 k3, .int .i64 a.2.2.2.2])) := by
      show Own.On _ _ _ _
      rw [(And.intro hb hc).1]
      exact Own.on_up (Own.on_same (HON2.out) (fun b hb => F1 b (by omega))) (fun b hb => ⟨by omega, by rw [F2]; omega⟩)
    have BF : Hid (Below w.heap.size w (((((u.setCell ⟨w.heap.size + 1, 0, none⟩ (.slice o0 n0 k0)).setCell ⟨w.heap.size + 1, 1, none⟩ (.slice o1 n1 k1)).setCell ⟨w.heap.size + 1, 2, none⟩ (.slice o2 n2 k2)).setCell ⟨w.heap.size + 1, 3, none⟩ (.slice o3 n3 k3)).setCell ⟨w.heap.size + 1, 4, none⟩ (.int .i64 a.2.2.2.2))) := (B2.out).trans (F3.mono (by omega))
    have EQC : Hid (stopC a x = 3) := (And.intro hb hc).2
    go_wp2_with fail
    exact bodyPost_ret (v := .tuple #[.agg #[.slice o0 n0 k0, .slice o1 n1 k1, .slice o2 n2 k2, .slice o3 n3 k3, .int .i64 a.2.2.2.2], .int .i64 3]) (by simp [results, Tryz.results7, go_sem, g0, g1, g2, g3, g4]) rfl ⟨cs [.slice o0 n0 k0, .slice o1 n1 k1, .slice o2 n2 k2, .slice o3 n3 k3, .int .i64 a.2.2.2.2], by rw [EQC.out]; rfl, ONF.out, BF.out⟩
  · rw [hc, hp]
    clear ST
    obtain ⟨y0, _⟩ := cell_row XA1.out 0 _ rfl
    obtain ⟨y1, _⟩ := cell_row XA1.out 1 _ rfl
    obtain ⟨y2, _⟩ := cell_row XA1.out 2 _ rfl
    obtain ⟨y3, _⟩ := cell_row XA1.out 3 _ rfl
    obtain ⟨y4, _⟩ := cell_row XA1.out 4 _ rfl
    simp only [List.getElem_toArray, List.getElem_cons_zero, List.getElem_cons_succ] at y0 y1 y2 y3 y4
    have CP : Hid _ := fresh22_any S a c w1 (HA.out _ B1.out) (fun b hb => by have := hS b hb; omega) hm
    go_wp2_with fail
    refine Calls.mono CP.out ?_
    rintro e u ⟨g, rfl, hg, hb2⟩
    clear y0 y1 y2 y3 y4 CP
    have HON : Hid (Own.On (fun b => w1.heap.size ≤ b ∧ b < u.heap.size) u a g) := hg
    obtain ⟨d0, d1, d2, d3, ⟨ge4, _⟩⟩ := at_DClaimBook.1 (Own.on_at hg)
    clear hg
    obtain ⟨o0, k0, ge0, _⟩ := d0
    obtain ⟨n0, en0⟩ : ∃ n, a.1.length = n := ⟨_, rfl⟩
    rw [en0] at ge0
    obtain ⟨o1, k1, ge1, _⟩ := d1
    obtain ⟨n1, en1⟩ : ∃ n, a.2.1.length = n := ⟨_, rfl⟩
    rw [en1] at ge1
    obtain ⟨o2, k2, ge2, _⟩ := d2
    obtain ⟨n2, en2⟩ : ∃ n, a.2.2.1.length = n := ⟨_, rfl⟩
    rw [en2] at ge2
    obtain ⟨o3, k3, ge3, _⟩ := d3
    obtain ⟨n3, en3⟩ : ∃ n, a.2.2.2.1.length = n := ⟨_, rfl⟩
    rw [en3] at ge3
    rw [ge0, ge1, ge2, ge3, ge4]
    have HON2 : Hid (Own.On (fun b => w1.heap.size ≤ b ∧ b < u.heap.size) u a (cs [.slice o0 n0 k0, .slice o1 n1 k1, .slice o2 n2 k2, .slice o3 n3 k3, .int .i64 a.2.2.2.2])) := Own.on_ext HON.out (fun j hj => by rw [width_DClaimBook] at hj; rcases (show j = 0 ∨ j = 1 ∨ j = 2 ∨ j = 3 ∨ j = 4 by omega) with rfl | rfl | rfl | rfl | rfl <;> first | exact ge0.symm | exact ge1.symm | exact ge2.symm | exact ge3.symm | exact ge4.symm)
    have EN3 : Hid (a.2.2.2.1.length = n3) := en3
    clear HON ge0 ge1 ge2 ge3 ge4 en0 en1 en2 en3
    have s2 := hb2.size
    obtain ⟨U3, hU3⟩ : ∃ V, V = u.alloc (.cells #[.slice o0 n0 k0, .slice o1 n1 k1, .slice o2 n2 k2, .slice o3 n3 k3, .int .i64 a.2.2.2.2] 33) := ⟨_, rfl⟩
    have HU3 : Hid (U3 = u.alloc (.cells #[.slice o0 n0 k0, .slice o1 n1 k1, .slice o2 n2 k2, .slice o3 n3 k3, .int .i64 a.2.2.2.2] 33)) := hU3
    have BU3 : Hid (Below u.heap.size u U3) := by rw [hU3]; exact (Below.refl _ _).alloc (Nat.le_refl _) _
    have s3 : U3.heap.size ≤ u.heap.size + 1 ∧ u.heap.size + 1 ≤ U3.heap.size := by rw [hU3]; simp
    have XB4 : Hid (U3.heap[u.heap.size]? = some (.cells #[.slice o0 n0 k0, .slice o1 n1 k1, .slice o2 n2 k2, .slice o3 n3 k3, .int .i64 a.2.2.2.2] 33 (0, 0))) := by rw [hU3]; exact heap_alloc_new u _
    clear hU3
    have B4 : Hid (Below w.heap.size w U3) := B1.out.trans ((hb2.trans (BU3.out.mono s2)).mono (by omega))
    have YA4 : Hid _ := box_stable BU3.out (box_stable hb2 YA1.out)
    have On4 : Hid (Own.On (fun b => w1.heap.size ≤ b ∧ b < u.heap.size) U3 a (cs [.slice o0 n0 k0, .slice o1 n1 k1, .slice o2 n2 k2, .slice o3 n3 k3, .int .i64 a.2.2.2.2])) := Own.on_same HON2.out (fun b hb => BU3.out.block b hb.2)
    clear hb2 HON2
    rw [EN3.out] at hk
    go_upto_region 5 with fail
    rw [← HU3.out]
    clear HU3
    obtain ⟨gp, off, cap, xx, eg3, hgp, hcl, hfz, hst⟩ := stop_store On4.out (fun b hb => by omega) (show k < a.2.2.2.1.length by rw [EN3.out]; exact hk)
    have eg3 : Value.slice o3 n3 k3 = .slice (some ⟨gp, off, none⟩) a.2.2.2.1.length cap := eg3
    have i1 : o3 = some ⟨gp, off, none⟩ := by injection eg3
    clear eg3
    subst i1
    have HST : Hid _ := hst
    clear hst
    obtain ⟨yb3, _⟩ := cell_row XB4.out 3 _ rfl
    simp only [List.getElem_toArray, List.getElem_cons_zero, List.getElem_cons_succ] at yb3
    go_upto_region 6 with fail
    obtain ⟨U5, hU5⟩ : ∃ V, V = U3.setCell ⟨gp, off + k * 7 + 6, none⟩ (.bool true) := ⟨_, rfl⟩
    rw [← hU5]
    have s5 : U5.heap.size ≤ U3.heap.size ∧ U3.heap.size ≤ U5.heap.size := by rw [hU5]; simp
    have XB5 : Hid (U5.heap[u.heap.size]? = some (.cells #[.slice o0 n0 k0, .slice o1 n1 k1, .slice o2 n2 k2, .slice (some ⟨gp, off, none⟩) n3 k3, .int .i64 a.2.2.2.2] 33 (0, 0))) := by rw [hU5]; exact (Below.heap_setCell _ _ _ _ (by show u.heap.size ≠ gp; omega)).trans XB4.out
    have YB5 : Hid (U5.heap[w.heap.size + 1]? = some (.cells #[.slice none 0 0, .slice none 0 0, .slice none 0 0, .slice none 0 0, .int .i64 0] 33 (0, 0))) := by rw [hU5]; exact (Below.heap_setCell _ _ _ _ (by show w.heap.size + 1 ≠ gp; omega)).trans YA4.out
    have On5 : Hid (Own.On (fun b => w1.heap.size ≤ b ∧ b < u.heap.size) U5 (stopAt a k) (cs [.slice o0 n0 k0, .slice o1 n1 k1, .slice o2 n2 k2, .slice (some ⟨gp, off, none⟩) n3 k3, .int .i64 a.2.2.2.2])) := by rw [hU5]; exact HST.out
    have B5 : Hid (Below w.heap.size w U5) := by rw [hU5]; exact Below.setCell (p := ⟨gp, off + k * 7 + 6, none⟩) B4.out (by show w.heap.size ≤ gp; omega) _
    clear hU5 hcl hfz yb3 HST
    obtain ⟨y0, _⟩ := cell_row XB5.out 0 _ rfl
    obtain ⟨y1, _⟩ := cell_row XB5.out 1 _ rfl
    obtain ⟨y2, _⟩ := cell_row XB5.out 2 _ rfl
    obtain ⟨y3, _⟩ := cell_row XB5.out 3 _ rfl
    obtain ⟨y4, _⟩ := cell_row XB5.out 4 _ rfl
    simp only [List.getElem_toArray, List.getElem_cons_zero, List.getElem_cons_succ] at y0 y1 y2 y3 y4
    obtain ⟨t0, f0⟩ := cell_row YB5.out 0 _ rfl
    obtain ⟨t1, f1⟩ := cell_row YB5.out 1 _ rfl
    obtain ⟨t2, f2⟩ := cell_row YB5.out 2 _ rfl
    obtain ⟨t3, f3⟩ := cell_row YB5.out 3 _ rfl
    obtain ⟨t4, f4⟩ := cell_row YB5.out 4 _ rfl
    simp only [List.getElem_toArray, List.getElem_cons_zero, List.getElem_cons_succ] at t0 t1 t2 t3 t4
    obtain ⟨F0, F1, F2, F3⟩ := ret_5 YB5.out (.slice o0 n0 k0) (.slice o1 n1 k1) (.slice o2 n2 k2) (.slice (some ⟨gp, off, none⟩) n3 k3) (.int .i64 a.2.2.2.2)
    have g0 := (cell_row F0 0 _ rfl).1
    have g1 := (cell_row F0 1 _ rfl).1
    have g2 := (cell_row F0 2 _ rfl).1
    have g3 := (cell_row F0 3 _ rfl).1
    have g4 := (cell_row F0 4 _ rfl).1
    simp only [List.getElem_toArray, List.getElem_cons_zero, List.getElem_cons_succ] at g0 g1 g2 g3 g4
    have ONF : Hid (Own.On (fun b => w.heap.size ≤ b ∧ b < (((((U5.setCell ⟨w.heap.size + 1, 0, none⟩ (.slice o0 n0 k0)).setCell ⟨w.heap.size + 1, 1, none⟩ (.slice o1 n1 k1)).setCell ⟨w.heap.size + 1, 2, none⟩ (.slice o2 n2 k2)).setCell ⟨w.heap.size + 1, 3, none⟩ (.slice (some ⟨gp, off, none⟩) n3 k3)).setCell ⟨w.heap.size + 1, 4, none⟩ (.int .i64 a.2.2.2.2)).heap.size) (((((U5.setCell ⟨w.heap.size + 1, 0, none⟩ (.slice o0 n0 k0)).setCell ⟨w.heap.size + 1, 1, none⟩ (.slice o1 n1 k1)).setCell ⟨w.heap.size + 1, 2, none⟩ (.slice o2 n2 k2)).setCell ⟨w.heap.size + 1, 3, none⟩ (.slice (some ⟨gp, off, none⟩) n3 k3)).setCell ⟨w.heap.size + 1, 4, none⟩ (.int .i64 a.2.2.2.2)) (stopB a x) (cs [.slice o0 n0 k0, .slice o1 n1 k1, .slice o2 n2 k2, .slice (some ⟨gp, off, none⟩) n3 k3, .int .i64 a.2.2.2.2])) := by
      show Own.On _ _ _ _
      rw [(stop_yes hbk hik).1]
      exact Own.on_up (Own.on_same (On5.out) (fun b hb => F1 b (by omega))) (fun b hb => ⟨by omega, by rw [F2]; omega⟩)
    have BF : Hid (Below w.heap.size w (((((U5.setCell ⟨w.heap.size + 1, 0, none⟩ (.slice o0 n0 k0)).setCell ⟨w.heap.size + 1, 1, none⟩ (.slice o1 n1 k1)).setCell ⟨w.heap.size + 1, 2, none⟩ (.slice o2 n2 k2)).setCell ⟨w.heap.size + 1, 3, none⟩ (.slice (some ⟨gp, off, none⟩) n3 k3)).setCell ⟨w.heap.size + 1, 4, none⟩ (.int .i64 a.2.2.2.2))) := (B5.out).trans (F3.mono (by omega))
    have EQC : Hid (stopC a x = 0) := (stop_yes hbk hik).2
    go_wp2_with fail
    exact bodyPost_ret (v := .tuple #[.agg #[.slice o0 n0 k0, .slice o1 n1 k1, .slice o2 n2 k2, .slice (some ⟨gp, off, none⟩) n3 k3, .int .i64 a.2.2.2.2], .int .i64 0]) (by simp [results, Tryz.results7, go_sem, g0, g1, g2, g3, g4]) rfl ⟨cs [.slice o0 n0 k0, .slice o1 n1 k1, .slice o2 n2 k2, .slice (some ⟨gp, off, none⟩) n3 k3, .int .i64 a.2.2.2.2], by rw [EQC.out]; rfl, ONF.out, BF.out⟩

end Go.Proofs.YticojnepejboaacGreat
