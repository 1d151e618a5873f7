import Derived.Test.YtigkkelaadbhcabGreatVb
import Derived.WalkKit
import Derived.WalkSpells
import Derived.WalkLawsBesides
import Derived.BigQuiet
import Derived.Deep.QuietTactic
import Derived.Deep.RegionWith
namespace Go.Proofs.YtigkkelaadbhcabGreat
open Go.RowKit
theorem under135 : Tryz.prog.underlying 97 = some (.slice 5) := by kernel_rfl
theorem under5 : Tryz.prog.underlying 5 = some (.int .u8) := by kernel_rfl
theorem under9 : Tryz.prog.underlying 9 = some .string := by kernel_rfl
theorem conv_one (x : Int) (W : World) : (convert 97 9 (.slice (some ⟨W.heap.size, 0, none⟩) 1 1)).run Tryz.prog (W.alloc (.cells #[.int .u8 x] 5)) = .ok (.string ⟨#[UInt8.ofNat x.toNat]⟩) (W.alloc (.cells #[.int .u8 x] 5)) := by
  rw [run_convert_bytes_string _ 97 9 5 _ 1 1 under135 under5 under9]
  rw [run_bytesToString _ ⟨W.heap.size, 0, none⟩ 1 1 [x]]
  · rfl
  · exact run_loadCells_list _ ⟨W.heap.size, 0, none⟩ [.int .u8 x] (fun j v hj => by
      match j, hj with
      | 0, hj => simp at hj; subst hj; simp [Addr.add])
end Go.Proofs.YtigkkelaadbhcabGreat
