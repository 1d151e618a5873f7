/-
  Whether two stuffs are foes, as the model's text tells it: by a walk over the pairs.
-/
import Derived.Test.YtkmgogfgdpldbacZs
namespace Go.Proofs.Ytkmgogfgdpldbac
open Go.RowKit

/-- Is this pair one of the two, in either order? -/
def isF (g : ByteArray × ByteArray) (a b : ByteArray) : Bool := eqB g.1 a && eqB g.2 b || eqB g.1 b && eqB g.2 a
def foeB (n : Nat) (f : Nat → ByteArray × ByteArray) (a b : ByteArray) : Bool := (List.range n).any fun i => isF (f i) a b
theorem foe_yes {n : Nat} {f : Nat → ByteArray × ByteArray} {a b : ByteArray} {k : Nat} (hk : k < n) (h : isF (f k) a b = true) : foeB n f a b = true := by
  simp only [foeB, List.any_eq_true]
  exact ⟨k, List.mem_range.2 hk, h⟩
theorem foe_no {n : Nat} {f : Nat → ByteArray × ByteArray} {a b : ByteArray} (h : ∀ j, j < n → isF (f j) a b = false) : foeB n f a b = false := by
  simp only [foeB, List.any_eq_false]
  intro i hi
  simp [h i (List.mem_range.1 hi)]

set_option maxRecDepth 100000 in
set_option maxHeartbeats 4000000 in
theorem foes_any (B : Nat) (v0 v1 v2 v3 : Value) (n : Nat) (f : Nat → ByteArray × ByteArray) (a b : ByteArray) (w : World) (h : Lst B w v1 n 2 (cF f)) (hB : B ≤ w.heap.size) :
    Calls Try.prog 14 #[.agg #[v0, v1, v2, v3], .string a, .string b] w fun e w' => e = .returned (.bool (foeB n f a b)) ∧ Below w.heap.size w w' := by
  obtain ⟨oa, cap, rfl, hn, hc⟩ := h
  unfold maxLen at hn
  have HC : Hid _ := hc
  clear hc
  go_enter Try.func14, Try.ntmps14
  go_wp2
  go_loop [7] (fun i => ∃ k : Nat, k ≤ n ∧ i = .int .i64 k ∧ Hid (∀ j, j < k → isF (f j) a b = false)) (fun i => n - (intOf i).toNat)
  case atStart => exact ⟨0, Nat.zero_le _, rfl, fun _ h => by omega⟩
  case round =>
    obtain ⟨k, hk, rfl, hno⟩ := hrel
    by_cases hlt : k < n
    · obtain ⟨bb, off, rfl, hbB, hcell⟩ := HC.out k hlt
      have c0 := cell_past (hcell 0 (by omega)) (by omega) (.cells #[v0, .slice (some ⟨bb, off, none⟩) n cap, v2, v3] 34)
      have c1 := cell_past (hcell 1 (by omega)) (by omega) (.cells #[v0, .slice (some ⟨bb, off, none⟩) n cap, v2, v3] 34)
      rw [Nat.add_zero] at c0
      simp only [cF, if_true] at c0
      simp only [cF, Nat.one_ne_zero, if_false] at c1
      clear hcell
      cases ht : isF (f k) a b
      · cases h1 : ((f k).1.toList == a.toList) <;> cases h2 : ((f k).2.toList == b.toList) <;> cases h3 : ((f k).1.toList == b.toList) <;> cases h4 : ((f k).2.toList == a.toList) <;>
          first
          | (exfalso; simp only [isF, eqB, h1, h2, h3, h4] at ht; cases ht; done)
          | (go_wp2
             go_round
             case rel => exact ⟨k + 1, by omega, by go_num, fun j hj => by
               by_cases e : j = k
               · subst e; exact ht
               · exact hno.out j (by omega)⟩
             case measure => simp [intOf]; omega)
      · have hfy := foe_yes hlt ht
        cases h1 : ((f k).1.toList == a.toList) <;> cases h2 : ((f k).2.toList == b.toList) <;> cases h3 : ((f k).1.toList == b.toList) <;> cases h4 : ((f k).2.toList == a.toList) <;>
          first
          | (exfalso; simp only [isF, eqB, h1, h2, h3, h4] at ht; cases ht; done)
          | (go_wp2
             go_ret
             first
             | exact ⟨rfl, (Below.refl _ _).alloc (Nat.le_refl _) _⟩
             | exact ⟨by rw [hfy], (Below.refl _ _).alloc (Nat.le_refl _) _⟩)
    · go_wp2
      go_ret
      have hkn : k = n := by omega
      subst hkn
      rw [foe_no hno.out]
      exact ⟨rfl, (Below.refl _ _).alloc (Nat.le_refl _) _⟩

end Go.Proofs.Ytkmgogfgdpldbac
