/-
  What is asked of types whose lists are made.
-/
import Derived.Test.YticojnepejboaacGreatCba
namespace Go.Proofs.YticojnepejboaacGreat
open Go.RowKit

theorem underStringS : Tryz.prog.underlying 24 = some (.slice 9) := by kernel_rfl
theorem infoStringS : (Tryz.prog.info? 9).map (fun i => (i.zero, i.size, i.bytes)) = some (some (.string ByteArray.empty), 1, 16) := by kernel_rfl
theorem underClaimUseS : Tryz.prog.underlying 46 = some (.slice 106) := by kernel_rfl
theorem infoClaimUseS : (Tryz.prog.info? 106).map (fun i => (i.zero, i.size, i.bytes)) = some (some (.agg #[.string ByteArray.empty, .int .i64 0, .int .i64 0]), 3, 32) := by kernel_rfl
theorem underClaimFoeS : Tryz.prog.underlying 29 = some (.slice 83) := by kernel_rfl
theorem infoClaimFoeS : (Tryz.prog.info? 83).map (fun i => (i.zero, i.size, i.bytes)) = some (some (.agg #[.string ByteArray.empty, .string ByteArray.empty]), 2, 32) := by kernel_rfl
theorem underClaimSpotS : Tryz.prog.underlying 30 = some (.slice 81) := by kernel_rfl
theorem infoClaimSpotS : (Tryz.prog.info? 81).map (fun i => (i.zero, i.size, i.bytes)) = some (some (.agg #[.string ByteArray.empty, .int .i64 0, .int .i64 0, .int .i64 0, .slice none 0 0]), 5, 64) := by kernel_rfl
theorem underClaimPartS : Tryz.prog.underlying 31 = some (.slice 50) := by kernel_rfl
theorem infoClaimPartS : (Tryz.prog.info? 50).map (fun i => (i.zero, i.size, i.bytes)) = some (some (.agg #[.int .i64 0, .int .i64 0, .slice none 0 0, .slice none 0 0, .slice none 0 0, .slice none 0 0, .bool false]), 7, 120) := by kernel_rfl

end Go.Proofs.YticojnepejboaacGreat
