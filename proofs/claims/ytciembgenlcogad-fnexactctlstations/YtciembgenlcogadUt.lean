/-
  Two small laws.
-/
import Derived.Test.YtciembgenlcogadUa
import Derived.Deep.RegionWith
namespace Go.Proofs.Ytciembgenlcogad
open Go.RowKit

theorem PD.All.sz {D : PD} (h : D.All) : D.Sz := ⟨h.s, h.p, fun i hi => ⟨(h.v i hi).1, (h.v i hi).2.2.2⟩⟩

theorem bool_same {a b : Bool} {p : Prop} (h1 : a = true ↔ p) (h2 : b = true ↔ p) : a = b := by
  rw [Bool.eq_iff_iff]; exact h1.trans h2.symm

end Go.Proofs.Ytciembgenlcogad
