/-
  PlantFoes, by both texts: whether a plant is valid and the two stuffs are foes in it.
-/
import Derived.Test.YtkmgogfgdpldbacFb
import Derived.Test.YtkmgogfgdpldbacFc
import Derived.Test.YtkmgogfgdpldbacUt
namespace Go.Proofs.Ytkmgogfgdpldbac
open Go.RowKit

theorem eqB_iff (a b : ByteArray) : eqB a b = true ↔ a = b := by
  constructor
  · intro h
    simp only [eqB, beq_iff_eq, ByteArray.toList_eq] at h
    exact ByteArray.ext (Array.toList_inj.1 h)
  · rintro rfl
    exact eqB_refl a

theorem isF_iff (g : ByteArray × ByteArray) (a b : ByteArray) : isF g a b = true ↔ (a = g.1 ∧ b = g.2) ∨ (a = g.2 ∧ b = g.1) := by
  simp only [isF, Bool.or_eq_true, Bool.and_eq_true, eqB_iff]
  constructor
  · rintro (⟨h1, h2⟩ | ⟨h1, h2⟩)
    · exact Or.inl ⟨h1.symm, h2.symm⟩
    · exact Or.inr ⟨h2.symm, h1.symm⟩
  · rintro (⟨h1, h2⟩ | ⟨h1, h2⟩)
    · exact Or.inl ⟨h1.symm, h2.symm⟩
    · exact Or.inr ⟨h2.symm, h1.symm⟩

theorem cnt_pos (f : Nat → ByteArray × ByteArray) (a b : ByteArray) (k : Nat) : 0 < cntF f k a b ↔ foeB k f a b = true := by
  rw [cnt_iff, foeB, List.any_eq_true]
  constructor
  · rintro ⟨i, hi, h⟩
    exact ⟨i, List.mem_range.2 hi, (isF_iff _ _ _).2 h⟩
  · rintro ⟨i, hi, h⟩
    exact ⟨i, List.mem_range.1 hi, (isF_iff _ _ _).1 h⟩

set_option maxRecDepth 100000 in
set_option maxHeartbeats 2000000 in
theorem plantFoesS_any (B : Nat) (v0 v1 v2 v3 : Value) (D : PD) (a b : ByteArray) (w : World) (h : PAt B w v0 v1 v2 v3 D) (hB : B ≤ w.heap.size) (hz : D.Sz) :
    Calls Try.prog 5 #[.agg #[v0, v1, v2, v3], .string a, .string b] w fun e w' => ∃ r, e = .returned (.bool r) ∧ (r = true ↔ D.V ∧ foeB D.nf D.ff a b = true) ∧ Below w.heap.size w w' := by
  have H : Hid (∀ w', Below w.heap.size w w' → PAt B w' v0 v1 v2 v3 D) := fun w' hb => h.kept hb hB
  have hb0 : Hid (Below w.heap.size w (w.alloc (.cells #[v0, v1, v2, v3] 34))) := (Below.refl _ _).alloc (Nat.le_refl _) _
  clear h
  go_enter Try.func5, Try.ntmps5
  go_wp2_with fail
  refine (validS_any B v0 v1 v2 v3 D _ (H.out _ hb0.out) (by simp; omega) hz).mono ?_
  rintro e w1 ⟨b1, rfl, i1, hb1⟩
  have k1 : Hid (Below w.heap.size w w1) := hb0.out.trans (hb1.mono (by simp))
  have I1 : Hid _ := i1
  clear i1
  cases b1
  · go_wp2_with fail
    go_ret
    exact ⟨false, rfl, ⟨(fun h => by cases h), fun h => I1.out.2 h.1⟩, k1.out⟩
  · have x0 := (hb1.cell (p := ⟨w.heap.size, 0, none⟩) (by simp)).trans (new_cell w #[v0, v1, v2, v3] 34 0 _ rfl)
    have x1 := (hb1.cell (p := ⟨w.heap.size, 1, none⟩) (by simp)).trans (new_cell w #[v0, v1, v2, v3] 34 1 _ rfl)
    have x2 := (hb1.cell (p := ⟨w.heap.size, 2, none⟩) (by simp)).trans (new_cell w #[v0, v1, v2, v3] 34 2 _ rfl)
    have x3 := (hb1.cell (p := ⟨w.heap.size, 3, none⟩) (by simp)).trans (new_cell w #[v0, v1, v2, v3] 34 3 _ rfl)
    have s1 : w.heap.size + 1 ≤ w1.heap.size := by have := hb1.size; simpa using this
    have hV : Hid D.V := I1.out.1 rfl
    go_wp2_with fail
    refine (foes_any B v0 v1 v2 v3 D.nf D.ff a b _ (H.out _ k1.out).f (by omega)).mono ?_
    rintro e w2 ⟨rfl, hb2⟩
    go_wp2_with fail
    go_ret
    exact ⟨foeB D.nf D.ff a b, rfl, ⟨fun h => ⟨hV.out, h⟩, fun h => h.2⟩, k1.out.trans (hb2.mono (by omega))⟩

set_option maxRecDepth 100000 in
set_option maxHeartbeats 2000000 in
theorem plantFoesI_any (B : Nat) (v0 v1 v2 v3 : Value) (D : PD) (a b : ByteArray) (w : World) (h : PAt B w v0 v1 v2 v3 D) (hB : B ≤ w.heap.size) (hz : D.All) (ha : a.size ≤ maxLen) (hb : b.size ≤ maxLen) :
    Calls Try.prog 7 #[.agg #[v0, v1, v2, v3], .string a, .string b] w fun e w' => ∃ r, e = .returned (.bool r) ∧ (r = true ↔ D.V ∧ foeB D.nf D.ff a b = true) ∧ Below w.heap.size w w' := by
  have H : Hid (∀ w', Below w.heap.size w w' → PAt B w' v0 v1 v2 v3 D) := fun w' hb => h.kept hb hB
  have hb0 : Hid (Below w.heap.size w (w.alloc (.cells #[v0, v1, v2, v3] 34))) := (Below.refl _ _).alloc (Nat.le_refl _) _
  have hsz : D.Sz := ⟨hz.s, hz.p, fun i hi => ⟨(hz.v i hi).1, (hz.v i hi).2.2.2⟩⟩
  clear h
  go_enter Try.func7, Try.ntmps7
  go_wp2_with fail
  refine (validI_any B v0 v1 v2 v3 D _ (H.out _ hb0.out) (by simp; omega) hsz).mono ?_
  rintro e w1 ⟨b1, rfl, i1, hb1⟩
  have k1 : Hid (Below w.heap.size w w1) := hb0.out.trans (hb1.mono (by simp))
  have I1 : Hid _ := i1
  clear i1
  cases b1
  · go_wp2_with fail
    go_ret
    exact ⟨false, rfl, ⟨(fun h => by cases h), fun h => I1.out.2 h.1⟩, k1.out⟩
  · have x0 := (hb1.cell (p := ⟨w.heap.size, 0, none⟩) (by simp)).trans (new_cell w #[v0, v1, v2, v3] 34 0 _ rfl)
    have x1 := (hb1.cell (p := ⟨w.heap.size, 1, none⟩) (by simp)).trans (new_cell w #[v0, v1, v2, v3] 34 1 _ rfl)
    have x2 := (hb1.cell (p := ⟨w.heap.size, 2, none⟩) (by simp)).trans (new_cell w #[v0, v1, v2, v3] 34 2 _ rfl)
    have x3 := (hb1.cell (p := ⟨w.heap.size, 3, none⟩) (by simp)).trans (new_cell w #[v0, v1, v2, v3] 34 3 _ rfl)
    have s1 : w.heap.size + 1 ≤ w1.heap.size := by have := hb1.size; simpa using this
    have hV : Hid D.V := I1.out.1 rfl
    have h12 : D.nf ≤ 12 := ((V_iff D).1 hV.out).2.1.1
    go_wp2_with fail
    refine (foePairs_any B v0 v1 v2 v3 D.nf D.ff _ (H.out _ k1.out).f (by omega) hz.f (by omega)).mono ?_
    rintro e w2 ⟨m, rfl, hmp, hb2⟩
    have hp : Hid (0 < cntF D.ff D.nf a b ↔ foeB D.nf D.ff a b = true) := cnt_pos D.ff a b D.nf
    have HM : Hid (Mp w2 m (cntF D.ff D.nf)) := hmp
    clear hmp
    go_wp2_with fail
    refine (hasP_any m _ a b _ HM.out ha hb).mono ?_
    rintro e w3 ⟨rfl, rfl⟩
    go_wp2_with fail
    go_ret
    exact ⟨_, rfl, ⟨fun h => ⟨hV.out, hp.out.1 (of_decide_eq_true h)⟩, fun h => decide_eq_true (hp.out.2 h.2)⟩, k1.out.trans (hb2.mono (by omega))⟩

end Go.Proofs.Ytkmgogfgdpldbac
