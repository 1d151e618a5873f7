/-
  Contracts of PlantGroup, of the model and of the program: all places that are joined with one by open valves, ascending, in memory of the call's own.
-/
import Derived.Test.YtbdhlcfcmennjabRs
import Derived.Test.YtbdhlcfcmennjabRt
import Derived.Test.YtbdhlcfcmennjabZh
namespace Go.Proofs.Ytbdhlcfcmennjab
open Go.RowKit

/-- The group, if the plant is valid and this is a place; nothing else. -/
def grL (b : Bool) (D : PD) (no : Nat) (fo : Nat → ByteArray) (x : ByteArray) : List ByteArray := bif b then itG D.fv no fo D.nv D.np [x] else []
theorem grL_len (b : Bool) (D : PD) (no : Nat) (fo : Nat → ByteArray) (x : ByteArray) (hb : b = true → D.V) : (grL b D no fo x).length ≤ 37 := by
  cases b
  · exact Nat.zero_le _
  · exact (((InvG.start (f := D.fv) (no := no) (fo := fo) D.nv x).iter D.np).1).short (hb rfl).2.2.1

set_option maxRecDepth 100000 in
set_option maxHeartbeats 4000000 in
theorem groupS_any (B : Nat) (v0 v1 v2 v3 vo : Value) (D : PD) (no : Nat) (fo : Nat → ByteArray) (x : ByteArray) (w : World) (h : PAt B w v0 v1 v2 v3 D) (ho : Lst B w vo no 1 (cS fo)) (hB : B ≤ w.heap.size) (hz : D.Sz) :
    Calls Try.prog 21 #[.agg #[v0, v1, v2, v3], vo, .string x] w fun e w' => ∃ v b, e = .returned v ∧ (b = true ↔ D.V ∧ 0 ≤ placeI D.np D.fp x) ∧ w'.ownsRow w.heap.size 9 1 v (grL b D no fo x).length ((grL b D no fo x).map .string) ∧ Below w.heap.size w w' := by
  have H : Hid (∀ w', Below w.heap.size w w' → PAt B w' v0 v1 v2 v3 D ∧ Lst B w' vo no 1 (cS fo)) := fun w' hb => ⟨h.kept hb hB, ho.kept hb hB⟩
  clear h ho
  have k0 : Hid (Below (w.heap.size + 1) (w.alloc (.cells #[v0, v1, v2, v3] 34)) (w.alloc (.cells #[v0, v1, v2, v3] 34))) := Below.refl _ _
  go_enter Try.func21, Try.ntmps21
  go_wp2_with fail
  refine (validS_any B v0 v1 v2 v3 D _ (H.out _ (below_end k0.out)).1 (by simp; omega) hz).mono ?_; rintro e w1 ⟨b1, rfl, i1, hb1⟩
  have IS : Hid _ := i1
  have k1 : Hid (Below (w.heap.size + 1) (w.alloc (.cells #[v0, v1, v2, v3] 34)) w1) := below_of k0.out hb1
  have s1 : w.heap.size + 1 ≤ w1.heap.size := by have := k1.out.size; simpa using this
  clear i1 hb1
  cases b1
  · go_wp2_with fail
    go_ret
    exact ⟨_, false, rfl, ⟨(fun h => by cases h), fun h => IS.out.2 h.1⟩, World.ownsRow_made _ #[] 0 (by omega) (Nat.zero_le _) rfl, (below_end k1.out).alloc (by omega) _⟩
  · have hV : Hid D.V := by have := IS.out; simpa [Hid] using this
    have a0 := box_in k1.out 0 _ rfl
    have a1 := box_in k1.out 1 _ rfl
    have a2 := box_in k1.out 2 _ rfl
    have a3 := box_in k1.out 3 _ rfl
    simp only [List.getElem_toArray, List.getElem_cons_zero, List.getElem_cons_succ] at a0 a1 a2 a3
    go_wp2_with fail
    refine (place_any B v0 v1 v2 v3 D.np D.fp x _ (H.out _ (below_end k1.out)).1.p (by omega)).mono ?_; rintro e w2 ⟨rfl, hb2⟩
    have k2 : Hid (Below (w.heap.size + 1) (w.alloc (.cells #[v0, v1, v2, v3] 34)) w2) := below_of k1.out hb2
    have s2 : w.heap.size + 1 ≤ w2.heap.size := by have := k2.out.size; simpa using this
    clear hb2 a0 a1 a2 a3
    cases hp : decide (placeI D.np D.fp x < 0)
    · have hx : 0 ≤ placeI D.np D.fp x := by simpa using hp
      have HX : Hid (0 ≤ placeI D.np D.fp x) := hx
      clear hx
      have a0 := box_in k2.out 0 _ rfl
      have a1 := box_in k2.out 1 _ rfl
      have a2 := box_in k2.out 2 _ rfl
      have a3 := box_in k2.out 3 _ rfl
      simp only [List.getElem_toArray, List.getElem_cons_zero, List.getElem_cons_succ] at a0 a1 a2 a3
      go_wp2_with fail
      refine (l4Group_any B v0 v1 v2 v3 vo D no fo x _ (H.out _ (below_end k2.out)).1 (H.out _ (below_end k2.out)).2 (by omega) hV.out.2.2.1).mono ?_; rintro e w3 ⟨g, cap, rfl, ho3, hb3⟩
      have O3 : Hid (w3.ownsRow w2.heap.size 9 1 (.slice (some ⟨g, 0, none⟩) (itG D.fv no fo D.nv D.np [x]).length cap) (itG D.fv no fo D.nv D.np [x]).length ((itG D.fv no fo D.nv D.np [x]).map .string)) := ho3
      clear ho3
      go_wp2_with fail
      go_ret
      exact ⟨_, true, rfl, ⟨fun _ => ⟨hV.out, HX.out⟩, fun _ => rfl⟩, own_leR O3.out (by omega), (below_end k2.out).trans (hb3.mono (by omega))⟩
    · have HX : Hid (¬ 0 ≤ placeI D.np D.fp x) := by have := of_decide_eq_true hp; show ¬ _; omega
      go_wp2_with fail
      go_ret
      exact ⟨_, false, rfl, ⟨(fun h => by cases h), fun h => by have h1 := h.2; have h2 := HX.out; omega⟩, World.ownsRow_made _ #[] 0 (by omega) (Nat.zero_le _) rfl, (below_end k2.out).alloc (by omega) _⟩

theorem op_sizes {D : PD} (hV : D.V) (no : Nat) (fo : Nat → ByteArray) : ∀ i, i < (opN D.fv no fo D.nv).length → (nthV (opN D.fv no fo D.nv) i).1.size ≤ 8 ∧ (nthV (opN D.fv no fo D.nv) i).2.1.size ≤ 8 ∧ (nthV (opN D.fv no fo D.nv) i).2.2.1.size ≤ 8 := fun i hi => by
  have hm : nthV (opN D.fv no fo D.nv) i ∈ opN D.fv no fo D.nv := List.mem_of_getElem? (i := i) (by simp [nthV, hi])
  obtain ⟨j, hj, e⟩ := List.mem_map.1 hm
  rw [← e]
  exact V_sizes hV j (List.mem_range.1 (List.mem_filter.1 hj).1)

set_option maxRecDepth 100000 in
set_option maxHeartbeats 4000000 in
theorem groupI_any (B : Nat) (v0 v1 v2 v3 vo : Value) (D : PD) (no : Nat) (fo : Nat → ByteArray) (x : ByteArray) (w : World) (h : PAt B w v0 v1 v2 v3 D) (ho : Lst B w vo no 1 (cS fo)) (hB : B ≤ w.heap.size) (hz : D.Sz) :
    Calls Try.prog 23 #[.agg #[v0, v1, v2, v3], vo, .string x] w fun e w' => ∃ v b, e = .returned v ∧ (b = true ↔ D.V ∧ 0 ≤ placeI D.np D.fp x) ∧ w'.ownsRow w.heap.size 9 1 v (grL b D no fo x).length ((grL b D no fo x).map .string) ∧ Below w.heap.size w w' := by
  have H : Hid (∀ w', Below w.heap.size w w' → PAt B w' v0 v1 v2 v3 D ∧ Lst B w' vo no 1 (cS fo)) := fun w' hb => ⟨h.kept hb hB, ho.kept hb hB⟩
  obtain ⟨o2, c2, rfl⟩ := slice_lst h.p
  clear h ho
  have k0 : Hid (Below (w.heap.size + 1) (w.alloc (.cells #[v0, v1, .slice o2 D.np c2, v3] 34)) (w.alloc (.cells #[v0, v1, .slice o2 D.np c2, v3] 34))) := Below.refl _ _
  go_enter Try.func23, Try.ntmps23
  go_wp2_with fail
  refine (validI_any B v0 v1 _ v3 D _ (H.out _ (below_end k0.out)).1 (by simp; omega) hz).mono ?_; rintro e w1 ⟨b1, rfl, i1, hb1⟩
  have IS : Hid _ := i1
  have k1 : Hid (Below (w.heap.size + 1) (w.alloc (.cells #[v0, v1, .slice o2 D.np c2, v3] 34)) w1) := below_of k0.out hb1
  have s1 : w.heap.size + 1 ≤ w1.heap.size := by have := k1.out.size; simpa using this
  clear i1 hb1
  cases b1
  · go_wp2_with fail
    go_ret
    exact ⟨_, false, rfl, ⟨(fun h => by cases h), fun h => IS.out.2 h.1⟩, World.ownsRow_nil _ _ _ _, below_end k1.out⟩
  · have hV : Hid D.V := by have := IS.out; simpa [Hid] using this
    have a0 := box_in k1.out 0 _ rfl
    have a1 := box_in k1.out 1 _ rfl
    have a2 := box_in k1.out 2 _ rfl
    have a3 := box_in k1.out 3 _ rfl
    simp only [List.getElem_toArray, List.getElem_cons_zero, List.getElem_cons_succ] at a0 a1 a2 a3
    go_wp2_with fail
    refine (hasPlace_any B v0 v1 _ v3 D.np D.fp x _ (H.out _ (below_end k1.out)).1.p (by omega)).mono ?_; rintro e w2 ⟨rfl, hb2⟩
    have k2 : Hid (Below (w.heap.size + 1) (w.alloc (.cells #[v0, v1, .slice o2 D.np c2, v3] 34)) w2) := below_of k1.out hb2
    have s2 : w.heap.size + 1 ≤ w2.heap.size := by have := k2.out.size; simpa using this
    clear hb2 a0 a1 a2 a3
    cases hp : decide (0 ≤ placeI D.np D.fp x)
    · have HX : Hid (¬ 0 ≤ placeI D.np D.fp x) := of_decide_eq_false hp
      go_wp2_with fail
      go_ret
      exact ⟨_, false, rfl, ⟨(fun h => by cases h), fun h => by have h1 := h.2; have h2 := HX.out; omega⟩, World.ownsRow_nil _ _ _ _, below_end k2.out⟩
    · have HX : Hid (0 ≤ placeI D.np D.fp x) := (of_decide_eq_true hp : 0 ≤ placeI D.np D.fp x)
      have hx8 : x.size ≤ 8 := place_size (by have := HX.out; simp; omega) hV.out.2.1.2
      have a0 := box_in k2.out 0 _ rfl
      have a1 := box_in k2.out 1 _ rfl
      have a2 := box_in k2.out 2 _ rfl
      have a3 := box_in k2.out 3 _ rfl
      simp only [List.getElem_toArray, List.getElem_cons_zero, List.getElem_cons_succ] at a0 a1 a2 a3
      go_wp2_with fail
      refine (opened_any B v0 v1 v3 vo o2 D.np c2 D.nv D.fv no fo _ (H.out _ (below_end k2.out)).1.v (H.out _ (below_end k2.out)).2 (by omega) hV.out.2.2.1).mono ?_; rintro e w3 ⟨vn, rfl, hL3, hb3⟩
      have HL3 : Hid _ := hL3
      have k3 : Hid (Below (w.heap.size + 1) (w.alloc (.cells #[v0, v1, .slice o2 D.np c2, v3] 34)) w3) := below_of k2.out hb3
      have s3 : w.heap.size + 1 ≤ w3.heap.size := by have := k3.out.size; simpa using this
      clear hL3 hb3 a0 a1 a2 a3
      go_wp2_with fail
      refine (groupOf_any w3.heap.size _ _ _ vn _ _ x w3 HL3.out (Nat.le_refl _) (op_sizes hV.out no fo) (by have := opN_len D.fv no fo D.nv; have := hV.out.2.2.1; omega) hx8).mono ?_; rintro e w4 ⟨v4, L, S, rfl, hG, hA, hm, hl4, ho4, hb4⟩
      have ES : S = itG D.fv no fo D.nv D.np [x] := group_of hV.out no fo HX.out hG hA hm
      rw [ES] at ho4
      have O4 : Hid (w4.ownsRow w3.heap.size 9 1 v4 (itG D.fv no fo D.nv D.np [x]).length ((itG D.fv no fo D.nv D.np [x]).map .string)) := ho4
      have k4 : Hid (Below (w.heap.size + 1) (w.alloc (.cells #[v0, v1, .slice o2 D.np c2, v3] 34)) w4) := below_of k3.out hb4
      clear ho4 hb4 hG hA hm ES hl4
      go_wp2_with fail
      go_ret
      exact ⟨v4, true, rfl, ⟨fun _ => ⟨hV.out, HX.out⟩, fun _ => rfl⟩, own_leR O4.out (by omega), below_end k4.out⟩

end Go.Proofs.Ytbdhlcfcmennjab
