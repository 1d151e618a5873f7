/-
  The valves that are open have names as short as all of the plant's.
-/
import Derived.Test.YtbdhlcfcmennjacGreatRs
import Derived.Test.YtbdhlcfcmennjacGreatRt
import Derived.Test.YtbdhlcfcmennjacGreatZh
namespace Go.Proofs.YtbdhlcfcmennjacGreat
open Go.RowKit

theorem op_sizes {D : PD} (hV : D.V) (no : Nat) (fo : Nat → ByteArray) : ∀ i, i < (opN D.fv no fo D.nv).length → (nthV (opN D.fv no fo D.nv) i).1.size ≤ 8 ∧ (nthV (opN D.fv no fo D.nv) i).2.1.size ≤ 8 ∧ (nthV (opN D.fv no fo D.nv) i).2.2.1.size ≤ 8 := fun i hi => by
  have hm : nthV (opN D.fv no fo D.nv) i ∈ opN D.fv no fo D.nv := List.mem_of_getElem? (i := i) (by simp [nthV, hi])
  obtain ⟨j, hj, e⟩ := List.mem_map.1 hm
  rw [← e]
  exact V_sizes hV j (List.mem_range.1 (List.mem_filter.1 hj).1)

end Go.Proofs.YtbdhlcfcmennjacGreat
