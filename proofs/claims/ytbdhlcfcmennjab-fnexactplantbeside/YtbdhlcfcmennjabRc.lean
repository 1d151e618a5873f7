/-
  Contracts of the model's PlantBeside: it answers with the names of the valves that end at the place.
-/
import Derived.Test.YtbdhlcfcmennjabRb
import Derived.Test.YtbdhlcfcmennjabRk
namespace Go.Proofs.Ytbdhlcfcmennjab
open Go.RowKit

set_option maxRecDepth 100000 in
set_option maxHeartbeats 2000000 in
theorem besideS_any (B : Nat) (v0 v1 v2 v3 : Value) (D : PD) (x : ByteArray) (w : World) (h : PAt B w v0 v1 v2 v3 D) (hB : B ≤ w.heap.size) (hz : D.Sz) (hm : D.nv ≤ 1048576) :
    Calls Try.prog 14 #[.agg #[v0, v1, v2, v3], .string x] w fun e w' => ∃ v b, e = .returned v ∧ (b = true ↔ D.V) ∧ w'.ownsRow w.heap.size 9 1 v (besL b D x).length ((besL b D x).map .string) ∧ Below w.heap.size w w' := by
  have H : Hid (∀ w', Below w.heap.size w w' → PAt B w' v0 v1 v2 v3 D) := fun w' hb => h.kept hb hB
  clear h
  have k0 : Hid (Below (w.heap.size + 1) (w.alloc (.cells #[v0, v1, v2, v3] 34)) (w.alloc (.cells #[v0, v1, v2, v3] 34))) := Below.refl _ _
  go_enter Try.func14, Try.ntmps14
  go_wp2_with fail
  refine (validS_any B v0 v1 v2 v3 D _ (H.out _ (below_end k0.out)) (by simp; omega) hz).mono ?_; rintro e w1 ⟨b, rfl, is, hb1⟩
  have IS : Hid _ := is
  clear is
  have k1 : Hid (Below (w.heap.size + 1) (w.alloc (.cells #[v0, v1, v2, v3] 34)) w1) := below_of k0.out hb1
  have s1 : w.heap.size + 1 ≤ w1.heap.size := by have := k1.out.size; simpa using this
  cases b
  · go_wp2_with fail
    go_ret
    exact ⟨_, false, rfl, IS.out, World.ownsRow_made _ #[] 0 (by omega) (Nat.zero_le _) rfl, (below_end k1.out).alloc (by omega) _⟩
  · have a0 := box_in k1.out 0 _ rfl
    have a1 := box_in k1.out 1 _ rfl
    have a2 := box_in k1.out 2 _ rfl
    have a3 := box_in k1.out 3 _ rfl
    simp only [List.getElem_toArray, List.getElem_cons_zero, List.getElem_cons_succ] at a0 a1 a2 a3
    go_wp2_with fail
    refine (l4Beside_any B v0 v1 v2 v3 D.nv D.fv x _ (H.out _ (below_end k1.out)).v (by omega) hm).mono ?_; rintro e w2 ⟨v, rfl, ho, hb2⟩
    have HO : Hid (w2.ownsRow w1.heap.size 9 1 v (besN D.fv x D.nv).length ((besN D.fv x D.nv).map .string)) := ho
    clear ho
    go_wp2_with fail
    go_ret
    exact ⟨v, true, rfl, by simpa using IS.out, ⟨HO.out.1, by
        rcases HO.out.2 with hh | ⟨g, cap', cur, hv, hb, rest⟩
        · exact Or.inl hh
        · exact Or.inr ⟨g, cap', cur, hv, by omega, rest⟩⟩, (below_end k1.out).trans (hb2.mono (by omega))⟩

end Go.Proofs.Ytbdhlcfcmennjab
