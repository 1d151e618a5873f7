/-
  What is asked of types whose lists are made.
-/
import Derived.Test.YtciembgenlcogacBmg
namespace Go.Proofs.Ytciembgenlcogac
open Go.RowKit

theorem underStringS : Try.prog.underlying 22 = some (.slice 9) := by kernel_rfl
theorem infoStringS : (Try.prog.info? 9).map (fun i => (i.zero, i.size, i.bytes)) = some (some (.string ByteArray.empty), 1, 16) := by kernel_rfl
theorem underClaimUseS : Try.prog.underlying 100 = some (.slice 125) := by kernel_rfl
theorem infoClaimUseS : (Try.prog.info? 125).map (fun i => (i.zero, i.size, i.bytes)) = some (some (.agg #[.string ByteArray.empty, .int .i64 0, .int .i64 0]), 3, 32) := by kernel_rfl
theorem underClaimFoeS : Try.prog.underlying 29 = some (.slice 53) := by kernel_rfl
theorem infoClaimFoeS : (Try.prog.info? 53).map (fun i => (i.zero, i.size, i.bytes)) = some (some (.agg #[.string ByteArray.empty, .string ByteArray.empty]), 2, 32) := by kernel_rfl
theorem underClaimSpotS : Try.prog.underlying 30 = some (.slice 57) := by kernel_rfl
theorem infoClaimSpotS : (Try.prog.info? 57).map (fun i => (i.zero, i.size, i.bytes)) = some (some (.agg #[.string ByteArray.empty, .int .i64 0, .int .i64 0, .int .i64 0, .slice none 0 0]), 5, 64) := by kernel_rfl
theorem underClaimPartS : Try.prog.underlying 31 = some (.slice 104) := by kernel_rfl
theorem infoClaimPartS : (Try.prog.info? 104).map (fun i => (i.zero, i.size, i.bytes)) = some (some (.agg #[.int .i64 0, .int .i64 0, .slice none 0 0, .slice none 0 0, .slice none 0 0, .slice none 0 0, .bool false]), 7, 120) := by kernel_rfl

end Go.Proofs.Ytciembgenlcogac
