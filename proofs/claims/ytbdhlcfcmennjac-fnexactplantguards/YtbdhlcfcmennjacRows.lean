/-
  No cell of these rows narrows 'for every input' (looked for: loops, veiled, ifaces, maps, wideKeys, modest, calm, conditions, laid).
  DERIVED. THE GIVEN ROWS OF THIS SEAT. 2 by the template 'for every input the law returns true; each argument reads behind the call as it read before'; 0 by the template 'total and deterministic' (their statements: YtbdhlcfcmennjacTotals.lean).
  GIVEN WITH THE SEED: the statements are not yours to turn. If you find one false, say at which input.
  Laid BY PROGRAM, IN A SANDBOX (cutbox-rows.mjs): the forced cells as the released guide's own fill.sh prints them over the translation cc0e148a9298903d… (all of the seat's roots in one cut). By AI agents, Wed Nov 11 2026. No macro, syntax, notation, axiom, sorry.
-/
import Derived.Test.YtbdhlcfcmennjacChecked
import GoSem.Claim
import GoSem.ClaimJoined
import GoSem.ClaimMapViews
import Derived.JoinedTies
import Derived.KernelRfl
namespace Go.Proofs.Ytbdhlcfcmennjac
/- THE CELL 'sum', in the pinned program and in every row, IS THE sha256 OF THE DUMP (.gsa) THAT YtbdhlcfcmennjacProg.lean LOADS. Nothing in Lean hashes anything: it is a label: what it is worth is what the hold of that sum in a sandbox is worth. -/
noncomputable def Try.pinned : Pinned := { name := "ytbdhlcfcmennjac", sum := "cc0e148a9298903d7b81142405a5bf5ee6c61300d58265f8ca6f98082e74fd44", checked := Try.checked }
namespace Rows
def none {H : Type} : Left H := { results := [], args := [] }

/-- 'laws.FnExactPlantRoutes': WHATEVER THE INPUT: true; the input reads as it did. -/
def fnExactPlantRoutesSpec : ChangeSpec := { name := "fnExactPlantRoutes", fn := fun _ => fun
  | [d1, d2, d3] => { results := [.lit (.bool true)], args := [d1, d2, d3] }
  | _ => none }
def fnExactPlantRoutesRow : OpenClaim := { program := "ytbdhlcfcmennjac", sum := "cc0e148a9298903d7b81142405a5bf5ee6c61300d58265f8ca6f98082e74fd44", func := "loop.example/malthouse/laws.FnExactPlantRoutes", spec := "fnExactPlantRoutes", inPlace := ["internal/bytealg.abigen_runtime_cmpstring"], unfollowed := true, recurses := true, apart := false }
def FnExactPlantRoutesSaid : Prop := fnExactPlantRoutesRow.holds Try.pinned (OpenSpec.ofChange fnExactPlantRoutesSpec)

/-- ITS FALSE NEIGHBOUR: 'it returns false'. Refute it at one input. -/
def fnExactPlantRoutesWrong : ChangeSpec := { name := "fnExactPlantRoutes", fn := fun _ => fun
  | [d1, d2, d3] => { results := [.lit (.bool false)], args := [d1, d2, d3] }
  | _ => none }
def FnExactPlantRoutesWrongFalsely : Prop := fnExactPlantRoutesRow.holds Try.pinned (OpenSpec.ofChange fnExactPlantRoutesWrong)

/-- 'laws.FnExactPlantGuards': WHATEVER THE INPUT: true; the input reads as it did. -/
def fnExactPlantGuardsSpec : ChangeSpec := { name := "fnExactPlantGuards", fn := fun _ => fun
  | [d1, d2] => { results := [.lit (.bool true)], args := [d1, d2] }
  | _ => none }
def fnExactPlantGuardsRow : OpenClaim := { program := "ytbdhlcfcmennjac", sum := "cc0e148a9298903d7b81142405a5bf5ee6c61300d58265f8ca6f98082e74fd44", func := "loop.example/malthouse/laws.FnExactPlantGuards", spec := "fnExactPlantGuards", inPlace := ["internal/bytealg.abigen_runtime_cmpstring"], unfollowed := true, recurses := true, apart := false }
def FnExactPlantGuardsSaid : Prop := fnExactPlantGuardsRow.holds Try.pinned (OpenSpec.ofChange fnExactPlantGuardsSpec)

/-- ITS FALSE NEIGHBOUR: 'it returns false'. Refute it at one input. -/
def fnExactPlantGuardsWrong : ChangeSpec := { name := "fnExactPlantGuards", fn := fun _ => fun
  | [d1, d2] => { results := [.lit (.bool false)], args := [d1, d2] }
  | _ => none }
def FnExactPlantGuardsWrongFalsely : Prop := fnExactPlantGuardsRow.holds Try.pinned (OpenSpec.ofChange fnExactPlantGuardsWrong)

/- THE SECOND FORM. 'bulk': how many values and letters a reading holds, each counted each time it is reached (what is shared counts as often as it is met; a slice's spare places count too). A statement '..UptoSaid' is the law's where the arguments, and the package variables that the reading takes, are together of bulk at most 1048576: NARROWER than '..Said'. Prove '..Said' where nothing that the law and all that it calls make is longer than what came in: it says more and counts as full. Else prove '..UptoSaid'. A law counts once. -/
mutual
def uptoBulk {H : Type} : DataW H → Nat
  | .lit (.string bytes) => bytes.length + 1
  | .lit _ => 1
  | .nil => 1
  | .ptr d => uptoBulk d + 1
  | .slice elems spare => uptoBulkAll elems + uptoBulkAll spare + 1
  | .agg parts => uptoBulkAll parts + 1
  | .iface _ d => uptoBulk d + 1
  | .map entries => uptoBulkEntries entries + 1
  | .held _ => 1
def uptoBulkAll {H : Type} : List (DataW H) → Nat
  | [] => 0
  | d :: r => uptoBulk d + uptoBulkAll r
def uptoBulkEntries {H : Type} : List (Lit × DataW H) → Nat
  | [] => 0
  | x :: r => uptoBulkEntry x + uptoBulkEntries r
def uptoBulkEntry {H : Type} : Lit × DataW H → Nat
  | (.string bytes, d) => bytes.length + uptoBulk d + 1
  | (_, d) => uptoBulk d + 1
 end
def uptoSmall : (H : Type) → List (DataW H) → Bool := fun _ ds => decide (uptoBulkAll ds ≤ 1048576)
def OpenSpec.upto (s : _root_.Go.ChangeSpec) : _root_.Go.OpenSpec := { _root_.Go.OpenSpec.ofChange s with cond := some uptoSmall }

/-- 'laws.FnExactPlantRoutes', WHERE WHAT IT READS IS OF BULK AT MOST 1048576: true; the input reads as it did. -/
def fnExactPlantRoutesUptoRow : OpenClaim := { program := "ytbdhlcfcmennjac", sum := "cc0e148a9298903d7b81142405a5bf5ee6c61300d58265f8ca6f98082e74fd44", func := "loop.example/malthouse/laws.FnExactPlantRoutes", spec := "fnExactPlantRoutes", inPlace := ["internal/bytealg.abigen_runtime_cmpstring"], unfollowed := true, recurses := true, apart := false, narrowed := true }
def FnExactPlantRoutesUptoSaid : Prop := fnExactPlantRoutesUptoRow.holds Try.pinned (OpenSpec.upto fnExactPlantRoutesSpec)

/-- 'laws.FnExactPlantGuards', WHERE WHAT IT READS IS OF BULK AT MOST 1048576: true; the input reads as it did. -/
def fnExactPlantGuardsUptoRow : OpenClaim := { program := "ytbdhlcfcmennjac", sum := "cc0e148a9298903d7b81142405a5bf5ee6c61300d58265f8ca6f98082e74fd44", func := "loop.example/malthouse/laws.FnExactPlantGuards", spec := "fnExactPlantGuards", inPlace := ["internal/bytealg.abigen_runtime_cmpstring"], unfollowed := true, recurses := true, apart := false, narrowed := true }
def FnExactPlantGuardsUptoSaid : Prop := fnExactPlantGuardsUptoRow.holds Try.pinned (OpenSpec.upto fnExactPlantGuardsSpec)

end Rows
end Go.Proofs.Ytbdhlcfcmennjac
