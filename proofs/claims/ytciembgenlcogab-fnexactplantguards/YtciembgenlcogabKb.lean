/-
  Contracts of the model's small functions over places and valves: what a place can hold, what is behind a valve, where a valve stands, whether it lies between two places.
-/
import Derived.Test.YtciembgenlcogabKw
import Derived.Test.YtciembgenlcogabKa
namespace Go.Proofs.Ytciembgenlcogab
open Go.RowKit

theorem val_yes {n : Nat} {f : Nat → ByteArray × ByteArray × ByteArray × ByteArray} {x : ByteArray} {k : Nat} (hk : k < n) (h : eqB (f k).1 x = true) (hno : ∀ j, j < k → eqB (f j).1 x = false) : valI n f x = k := by
  have : (List.range n).find? (fun i => eqB (f i).1 x) = some k := by
    rw [List.find?_range_eq_some]
    refine ⟨h, by simpa using hk, fun j hj => by simp [hno j hj]⟩
  simp only [valI, this]
theorem val_no {n : Nat} {f : Nat → ByteArray × ByteArray × ByteArray × ByteArray} {x : ByteArray} (h : ∀ j, j < n → eqB (f j).1 x = false) : valI n f x = -1 := by
  have : (List.range n).find? (fun i => eqB (f i).1 x) = none := by
    rw [List.find?_eq_none]
    intro i hi
    simp [h i (List.mem_range.1 hi)]
  simp only [valI, this]

set_option maxRecDepth 100000 in
set_option maxHeartbeats 1000000 in
theorem valS_any (B : Nat) (v0 v1 v2 v3 : Value) (n : Nat) (f : Nat → ByteArray × ByteArray × ByteArray × ByteArray) (x : ByteArray) (w : World) (h : Lst B w v3 n 4 (cV f)) (hB : B ≤ w.heap.size) :
    Calls Try.prog 69 #[.agg #[v0, v1, v2, v3], .string x] w fun e w' => e = .returned (.int .i64 (valI n f x)) ∧ Below w.heap.size w w' := by
  obtain ⟨oa, cap, rfl, hn, hc⟩ := h
  unfold maxLen at hn
  have HC : Hid _ := hc
  clear hc
  go_enter Try.func69, Try.ntmps69
  go_wp2
  go_loop [5] (fun i => ∃ k : Nat, k ≤ n ∧ i = .int .i64 k ∧ Hid (∀ j, j < k → eqB (f j).1 x = false)) (fun i => n - (intOf i).toNat)
  case atStart => exact ⟨0, Nat.zero_le _, rfl, fun _ h => by omega⟩
  case round =>
    obtain ⟨k, hk, rfl, hno⟩ := hrel
    by_cases hlt : k < n
    · obtain ⟨b, off, rfl, hbB, hcell⟩ := HC.out k hlt
      have hcell := cell_past (hcell 0 (by omega)) (by omega) (.cells #[v0, v1, v2, .slice (some ⟨b, off, none⟩) n cap] 37)
      rw [Nat.add_zero] at hcell
      simp only [cV, if_true] at hcell
      go_wp2
      · have hy : ((f k).1.toList == x.toList) = true := by assumption
        rw [val_yes hlt hy hno.out]
        go_ret
        exact ⟨rfl, (Below.refl _ _).alloc (Nat.le_refl _) _⟩
      · have hy : ((f k).1.toList == x.toList) = false := by assumption
        go_round
        case rel => exact ⟨k + 1, by omega, by go_num, fun j hj => by
          by_cases e : j = k
          · subst e; exact hy
          · exact hno.out j (by omega)⟩
        case measure => simp [intOf]; omega
    · go_wp2
      go_ret
      have hkn : k = n := by omega
      subst hkn
      rw [val_no hno.out]
      exact ⟨rfl, (Below.refl _ _).alloc (Nat.le_refl _) _⟩

set_option maxRecDepth 100000 in
set_option maxHeartbeats 1000000 in
theorem joinS_any (B : Nat) (v0 v1 v2 v3 : Value) (n : Nat) (f : Nat → ByteArray × ByteArray × ByteArray × ByteArray) (v a b : ByteArray) (w : World) (h : Lst B w v3 n 4 (cV f)) (hB : B ≤ w.heap.size) :
    Calls Try.prog 48 #[.agg #[v0, v1, v2, v3], .string v, .string a, .string b] w fun e w' => e = .returned (.bool (joinB n f v a b)) ∧ Below w.heap.size w w' := by
  have H : Hid (∀ w', Below w.heap.size w w' → Lst B w' v3 n 4 (cV f)) := fun w' hb => h.kept hb hB
  have k0 : Hid (Below (w.heap.size + 1) (w.alloc (.cells #[v0, v1, v2, v3] 37)) (w.alloc (.cells #[v0, v1, v2, v3] 37))) := Below.refl _ _
  rcases val_cases n f v with hk | ⟨k, hkn, hk⟩
  · have hc : joinB n f v a b = false := by unfold joinB; rw [hk]; rfl
    rw [hc]
    clear h
    go_enter Try.func48, Try.ntmps48
    go_wp2_with fail
    refine (valS_any B v0 v1 v2 v3 n f v _ (H.out _ (below_end k0.out)) (by simp; omega)).mono ?_; rintro e w1 ⟨rfl, hb1⟩
    rw [hk]
    go_wp2_with fail
    go_ret
    exact ⟨rfl, below_end (below_of k0.out hb1)⟩
  · have hc : joinB n f v a b = eqB (behS (f k) a) b := by unfold joinB; rw [hk]; simp
    rw [hc]
    obtain ⟨oa, cap, rfl, hm, hcl⟩ := h
    unfold maxLen at hm
    obtain ⟨bk, off, rfl, hbB, hcell⟩ := hcl k hkn
    clear hcl
    go_enter Try.func48, Try.ntmps48
    go_wp2_with fail
    refine (valS_any B v0 v1 v2 _ n f v _ (H.out _ (below_end k0.out)) (by simp; omega)).mono ?_; rintro e w1 ⟨rfl, hb1⟩
    rw [hk]
    clear hk hc
    have k1 : Hid (Below (w.heap.size + 1) (w.alloc (.cells #[v0, v1, v2, .slice (some ⟨bk, off, none⟩) n cap] 37)) w1) := below_of k0.out hb1
    have a3 := box_in k1.out 3 _ rfl
    simp only [List.getElem_toArray, List.getElem_cons_zero, List.getElem_cons_succ] at a3
    have e0 : w1.cell? ⟨bk, off + k * 4, none⟩ = some (.string (f k).1) := old_in k1.out (by omega) (by simpa [cV] using hcell 0 (by omega))
    have e1 : w1.cell? ⟨bk, off + k * 4 + 1, none⟩ = some (.string (f k).2.1) := old_in k1.out (by omega) (by simpa [cV] using hcell 1 (by omega))
    have e2 : w1.cell? ⟨bk, off + k * 4 + 2, none⟩ = some (.string (f k).2.2.1) := old_in k1.out (by omega) (by simpa [cV] using hcell 2 (by omega))
    have e3 : w1.cell? ⟨bk, off + k * 4 + 3, none⟩ = some (.string (f k).2.2.2) := old_in k1.out (by omega) (by simpa [cV] using hcell 3 (by omega))
    clear hcell
    go_wp2_with fail
    refine (othS_any _ _ _ _ _ _).mono ?_; rintro e w2 ⟨rfl, hb2⟩
    go_wp2_with fail
    go_ret
    exact ⟨rfl, below_end (below_of k1.out hb2)⟩

end Go.Proofs.Ytciembgenlcogab
