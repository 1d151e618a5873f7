/-
  Small laws for the exact laws whose answer is a list of texts: how an owned list is read, marked, and held.
-/
import Derived.Test.YtciembgenlcogacMk
import Derived.Test.YtciembgenlcogacBmc
import Derived.Test.YtciembgenlcogacRz
import Derived.Test.YtciembgenlcogacRva
namespace Go.Proofs.Ytciembgenlcogac
open Go.RowKit

theorem own_outs {B L H : Nat} {w w' : World} {e size : Nat} {v : Value} {n : Nat} {xs : List Value} (h : w.ownsRow B e size v n xs) (ho : Outs L H w w') (hH : H ≤ B) : w'.ownsRow B e size v n xs := by
  refine ⟨h.1, ?_⟩
  rcases h.2 with hn | ⟨g, cap, cur, hv, hbg, hg, rest⟩
  · exact Or.inl hn
  · exact Or.inr ⟨g, cap, cur, hv, hbg, (ho.out g (by omega) (Array.getElem?_eq_some_iff.1 hg).1).trans hg, rest⟩

theorem mark_own (B : Nat) (v : Value) (n : Nat) (xs : List Value) (w : World) (hn : n ≤ 1048576) (h : w.ownsRow B 9 1 v n xs) :
    Calls Try.prog 33 #[v, .int .i64 1] w fun e w' => e = .returned (.int .i64 (1 + n)) ∧ Below B w w' ∧ Lst w'.heap.size w' v n 1 (cS (mkF 1)) := by
  rcases h.2 with ⟨rfl, rfl⟩ | ⟨g, cap, cur, rfl, hb, hg, hc, hm, hs, ht⟩
  · refine (mkS_nil none 0 1 w).mono ?_
    rintro e w' ⟨rfl, rfl⟩
    exact ⟨by simp, Below.refl _ _, none, 0, rfl, Nat.zero_le _, fun i hi => by omega⟩
  · refine (mkS_any B (g + 1) g n cap cap 1 cur w hg (by omega) hb (by omega) hc (by omega) (by omega)).mono ?_
    rintro e w' ⟨rfl, ho, cur', hg', _, hall⟩
    refine ⟨rfl, ho.bel, _, _, rfl, by unfold maxLen; omega, fun i hi => ⟨g, 0, rfl, (Array.getElem?_eq_some_iff.1 hg').1, fun j hj => ?_⟩⟩
    have ej : j = 0 := by omega
    subst ej
    rw [Nat.zero_add, Nat.mul_one, Nat.add_zero]
    exact (cell_row hg' i _ (hall i hi)).1

end Go.Proofs.Ytciembgenlcogac
