/-
  A contract of the model's walk over the valves at a place.
-/
import Derived.Test.YtffmfomonmhkcaaGreatRz
namespace Go.Proofs.YtffmfomonmhkcaaGreat
open Go.RowKit

set_option maxRecDepth 100000 in
set_option maxHeartbeats 4000000 in
theorem l4Beside_any (B : Nat) (v0 v1 v2 v3 : Value) (nv : Nat) (f : Nat → ByteArray × ByteArray × ByteArray × ByteArray) (x : ByteArray) (w : World) (h : Lst B w v3 nv 4 (cV f)) (hB : B ≤ w.heap.size) (hm : nv ≤ 1048576) :
    Calls Tryz.prog 22 #[.agg #[v0, v1, v2, v3], .string x] w fun e w' => ∃ v, e = .returned v ∧ w'.ownsRow w.heap.size 9 1 v (besN f x nv).length ((besN f x nv).map .string) ∧ Below w.heap.size w w' := by
  obtain ⟨i0, hi, hz0, hz1, hz2⟩ := info_parts info9b
  obtain ⟨oa, cap, rfl, _, hc⟩ := h
  have HC : Hid _ := hc
  clear hc
  go_enter Tryz.func22, Tryz.ntmps22
  go_wp2
  go_loopw [5, 6] (fun v i wr => ∃ k : Nat, k ≤ nv ∧ i = .int .i64 k ∧ Hid (wr.ownsRow (w.heap.size + 1) 9 1 v (besN f x k).length ((besN f x k).map .string)) ∧ Hid (Below (w.heap.size + 1) (w.alloc (.cells #[v0, v1, v2, .slice oa nv cap] 36)) wr)) (fun _ i _ => nv - (intOf i).toNat)
  case atStart =>
    have h0 := World.ownsRow_made (base := w.heap.size + 1) (e := 9) (size := 1) (w.alloc (.cells #[v0, v1, v2, .slice oa nv cap] 36)) #[] 0 (by simp) (Nat.zero_le _) rfl
    exact ⟨0, Nat.zero_le _, rfl, by simpa [Hid, besN] using h0, (Below.refl _ _).alloc (by simp) _⟩
  case round =>
    obtain ⟨k, hk, rfl, hown, hbel⟩ := hrel
    have b3 := box_in hbel.out 3 _ rfl
    simp only [List.getElem_toArray, List.getElem_cons_zero, List.getElem_cons_succ] at b3
    have hsz : w.heap.size + 1 ≤ wr.heap.size := by have := hbel.out.size; simpa using this
    by_cases hlt : k < nv
    · obtain ⟨b, off, rfl, hbB, hcell⟩ := HC.out k hlt
      have e0 : wr.cell? ⟨b, off + k * 4, none⟩ = some (.string (f k).1) := old_in hbel.out (by omega) (by simpa [cV] using hcell 0 (by omega))
      have e1 : wr.cell? ⟨b, off + k * 4 + 1, none⟩ = some (.string (f k).2.1) := old_in hbel.out (by omega) (by simpa [cV] using hcell 1 (by omega))
      have e2 : wr.cell? ⟨b, off + k * 4 + 2, none⟩ = some (.string (f k).2.2.1) := old_in hbel.out (by omega) (by simpa [cV] using hcell 2 (by omega))
      clear hcell
      have hbl := besN_len f x k
      have R : Hid (∀ (v' : Value) (w3 : World), w3.ownsRow (w.heap.size + 1) 9 1 v' ((besN f x k).length + 1) ((besN f x k).map .string ++ [.string (f k).1]) → endB (f k) x = true → w3.ownsRow (w.heap.size + 1) 9 1 v' (besN f x (k + 1)).length ((besN f x (k + 1)).map .string)) := fun v' w3 h hE => by
        rw [besN_yes hE]; exact own_push h
      have Z : Hid (endB (f k) x = false → besN f x (k + 1) = besN f x k) := besN_no
      have ef := endB_flip (f k) x
      unfold eqB at ef
      cases h1 : ((f k).2.1.toList == x.toList) <;> cases h2 : ((f k).2.2.1.toList == x.toList) <;> rw [h1, h2] at ef
      · have EF : Hid (endB (f k) x = false) := ef
        clear ef
        go_wp2
        go_roundw
        case rel => exact ⟨k + 1, by omega, by go_num, by show World.ownsRow _ _ _ _ _ _ _; rw [Z.out EF.out]; exact hown.out, hbel.out⟩
        case measure => simp [intOf]; omega
      all_goals
        have EF : Hid (endB (f k) x = true) := ef
        clear ef
        go_wp2_with (first
          | (at_builtin; refine wpList_append_own _ rfl _ _ 22 rfl (w.heap.size + 1) 9 i0 (.string ByteArray.empty) 1 16 under24b hi hz0 hz1 hz2 rfl (by decide) _ _ _ rfl (hown.out.alloc _) ⟨wr.heap.size, 0, none⟩ 1 1 [.string (f k).1] rfl rfl (cell_one_new _ _ _) (fun x hx => by simp at hx; subst hx; rfl) (by unfold maxLen; omega) (by omega) (by simp; omega) ?_; intro v' w3 hown' hgrow3 hnil3))
        go_roundw
        case rel =>
          have RR : ∃ k' : Nat, k' ≤ nv ∧ Value.int .i64 ((k : Int) + 1) = .int .i64 (k' : Int) ∧ Hid (w3.ownsRow (w.heap.size + 1) 9 1 v' (besN f x k').length ((besN f x k').map .string)) ∧ Hid (Below (w.heap.size + 1) (w.alloc (.cells #[v0, v1, v2, .slice (some ⟨b, off, none⟩) nv cap] 36)) w3) :=
            ⟨k + 1, by omega, by go_num, R.out v' w3 hown' EF.out, (hbel.out.alloc hsz _).grown hgrow3 (by simp; omega) (fun q hq => (hown.out.lt q hq).1)⟩
          first
            | exact RR
            | ((repeat apply Exists.intro); exact ⟨RR, rfl⟩)
        case measure => simp [intOf]; omega
    · have hkn : k = nv := by omega
      subst hkn
      go_wp2
      go_ret
      exact ⟨_, rfl, ⟨by have := hown.out.1; exact this, by
        rcases hown.out.2 with hh | ⟨g, cap', cur, hv, hb, rest⟩
        · exact Or.inl hh
        · exact Or.inr ⟨g, cap', cur, hv, by omega, rest⟩⟩, below_end hbel.out⟩

end Go.Proofs.YtffmfomonmhkcaaGreat
