/-
  Contracts of the model's small functions over places and valves: what a place can hold, what is behind a valve.
-/
import Derived.Test.YtciembgenlcogabKa
namespace Go.Proofs.Ytciembgenlcogab
open Go.RowKit

theorem place_cases (n : Nat) (f : Nat → ByteArray × Int × ByteArray) (x : ByteArray) : placeI n f x = -1 ∨ ∃ k : Nat, k < n ∧ placeI n f x = k := by
  unfold placeI
  cases hf : (List.range n).find? (fun i => eqB (f i).1 x) with
  | none => exact .inl rfl
  | some k => exact .inr ⟨k, List.mem_range.1 (List.mem_of_find?_eq_some hf), rfl⟩

theorem val_cases (n : Nat) (f : Nat → ByteArray × ByteArray × ByteArray × ByteArray) (x : ByteArray) : valI n f x = -1 ∨ ∃ k : Nat, k < n ∧ valI n f x = k := by
  unfold valI
  cases hf : (List.range n).find? (fun i => eqB (f i).1 x) with
  | none => exact .inl rfl
  | some k => exact .inr ⟨k, List.mem_range.1 (List.mem_of_find?_eq_some hf), rfl⟩

set_option maxRecDepth 100000 in
set_option maxHeartbeats 1000000 in
theorem capS_any (B : Nat) (v0 v1 v2 v3 : Value) (n : Nat) (f : Nat → ByteArray × Int × ByteArray) (x : ByteArray) (w : World) (h : Lst B w v2 n 3 (cP f)) (hB : B ≤ w.heap.size) :
    Calls Try.prog 47 #[.agg #[v0, v1, v2, v3], .string x] w fun e w' => e = .returned (.int .i64 (capI n f x)) ∧ Below w.heap.size w w' := by
  have H : Hid (∀ w', Below w.heap.size w w' → Lst B w' v2 n 3 (cP f)) := fun w' hb => h.kept hb hB
  have k0 : Hid (Below (w.heap.size + 1) (w.alloc (.cells #[v0, v1, v2, v3] 37)) (w.alloc (.cells #[v0, v1, v2, v3] 37))) := Below.refl _ _
  rcases place_cases n f x with hk | ⟨k, hkn, hk⟩
  · have hc : capI n f x = -1 := by unfold capI; rw [hk]; rfl
    rw [hc]
    clear h
    go_enter Try.func47, Try.ntmps47
    go_wp2_with fail
    refine (place_any B v0 v1 v2 v3 n f x _ (H.out _ (below_end k0.out)) (by simp; omega)).mono ?_; rintro e w1 ⟨rfl, hb1⟩
    rw [hk]
    go_wp2_with fail
    go_ret
    exact ⟨rfl, below_end (below_of k0.out hb1)⟩
  · have hc : capI n f x = (f k).2.1 := by unfold capI; rw [hk, if_neg (by omega)]; rfl
    rw [hc]
    obtain ⟨oa, cap, rfl, hm, hcl⟩ := h
    unfold maxLen at hm
    obtain ⟨b, off, rfl, hbB, hcell⟩ := hcl k hkn
    clear hcl
    go_enter Try.func47, Try.ntmps47
    go_wp2_with fail
    refine (place_any B v0 v1 _ v3 n f x _ (H.out _ (below_end k0.out)) (by simp; omega)).mono ?_; rintro e w1 ⟨rfl, hb1⟩
    rw [hk]
    clear hk hc
    have k1 : Hid (Below (w.heap.size + 1) (w.alloc (.cells #[v0, v1, .slice (some ⟨b, off, none⟩) n cap, v3] 37)) w1) := below_of k0.out hb1
    have a2 := box_in k1.out 2 _ rfl
    simp only [List.getElem_toArray, List.getElem_cons_zero, List.getElem_cons_succ] at a2
    have e1 : w1.cell? ⟨b, off + k * 3 + 1, none⟩ = some (.int .i64 (f k).2.1) := old_in k1.out (by omega) (by simpa [cP] using hcell 1 (by omega))
    clear hcell
    go_wp2_with fail
    go_ret
    exact ⟨rfl, below_end k1.out⟩

set_option maxRecDepth 100000 in
set_option maxHeartbeats 1000000 in
theorem othS_any (n a b s x : ByteArray) (w : World) :
    Calls Try.prog 70 #[.agg #[.string n, .string a, .string b, .string s], .string x] w fun e w' => e = .returned (.string (behS (n, a, b, s) x)) ∧ Below w.heap.size w w' := by
  unfold behS
  rw [eqB_comm x a, eqB_comm x b]
  unfold eqB
  cases h1 : (a.toList == x.toList)
  · cases h2 : (b.toList == x.toList)
    · go_enter Try.func70, Try.ntmps70
      go_wp2
      go_ret
      exact ⟨rfl, (Below.refl _ _).alloc (Nat.le_refl _) _⟩
    · go_enter Try.func70, Try.ntmps70
      go_wp2
      go_ret
      exact ⟨rfl, (Below.refl _ _).alloc (Nat.le_refl _) _⟩
  · go_enter Try.func70, Try.ntmps70
    go_wp2
    go_ret
    exact ⟨rfl, (Below.refl _ _).alloc (Nat.le_refl _) _⟩

end Go.Proofs.Ytciembgenlcogab
