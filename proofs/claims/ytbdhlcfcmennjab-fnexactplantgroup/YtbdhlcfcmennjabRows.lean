/-
  No cell of these rows narrows 'for every input' (looked for: loops, veiled, ifaces, maps, wideKeys, modest, calm, conditions, laid).
  DERIVED. THE GIVEN ROWS OF THIS SEAT. 4 by the template 'for every input the law returns true; each argument reads behind the call as it read before'; 0 by the template 'total and deterministic' (their statements: YtbdhlcfcmennjabTotals.lean).
  GIVEN WITH THE SEED: the statements are not yours to turn. If you find one false, say at which input.
  Laid BY PROGRAM, IN A SANDBOX (cutbox-rows.mjs): the forced cells as the released guide's own fill.sh prints them over the translation cfcef515fd516f10… (all of the seat's roots in one cut). By AI agents, Wed Nov 11 2026. No macro, syntax, notation, axiom, sorry.
-/
import Derived.Test.YtbdhlcfcmennjabChecked
import GoSem.Claim
import GoSem.ClaimJoined
import GoSem.ClaimMapViews
import Derived.JoinedTies
import Derived.KernelRfl
namespace Go.Proofs.Ytbdhlcfcmennjab
/- THE CELL 'sum', in the pinned program and in every row, IS THE sha256 OF THE DUMP (.gsa) THAT YtbdhlcfcmennjabProg.lean LOADS. Nothing in Lean hashes anything: it is a label: what it is worth is what the hold of that sum in a sandbox is worth. -/
noncomputable def Try.pinned : Pinned := { name := "ytbdhlcfcmennjab", sum := "cfcef515fd516f10535aec513ecbd43fa25e5e0bf6880034fc4400ae5484083e", checked := Try.checked }
namespace Rows
def none {H : Type} : Left H := { results := [], args := [] }

/-- 'laws.FnExactPlantValid': WHATEVER THE INPUT: true; the input reads as it did. -/
def fnExactPlantValidSpec : ChangeSpec := { name := "fnExactPlantValid", fn := fun _ => fun
  | [d] => { results := [.lit (.bool true)], args := [d] }
  | _ => none }
def fnExactPlantValidRow : OpenClaim := { program := "ytbdhlcfcmennjab", sum := "cfcef515fd516f10535aec513ecbd43fa25e5e0bf6880034fc4400ae5484083e", func := "loop.example/malthouse/laws.FnExactPlantValid", spec := "fnExactPlantValid", inPlace := ["internal/bytealg.abigen_runtime_cmpstring"], unfollowed := true, recurses := true, plainKeys := false, apart := false }
def FnExactPlantValidSaid : Prop := fnExactPlantValidRow.holds Try.pinned (OpenSpec.ofChange fnExactPlantValidSpec)

/-- ITS FALSE NEIGHBOUR: 'it returns false'. Refute it at one input. -/
def fnExactPlantValidWrong : ChangeSpec := { name := "fnExactPlantValid", fn := fun _ => fun
  | [d] => { results := [.lit (.bool false)], args := [d] }
  | _ => none }
def FnExactPlantValidWrongFalsely : Prop := fnExactPlantValidRow.holds Try.pinned (OpenSpec.ofChange fnExactPlantValidWrong)

/-- 'laws.FnExactPlantFoes': WHATEVER THE INPUT: true; the input reads as it did. -/
def fnExactPlantFoesSpec : ChangeSpec := { name := "fnExactPlantFoes", fn := fun _ => fun
  | [d1, d2, d3] => { results := [.lit (.bool true)], args := [d1, d2, d3] }
  | _ => none }
def fnExactPlantFoesRow : OpenClaim := { program := "ytbdhlcfcmennjab", sum := "cfcef515fd516f10535aec513ecbd43fa25e5e0bf6880034fc4400ae5484083e", func := "loop.example/malthouse/laws.FnExactPlantFoes", spec := "fnExactPlantFoes", inPlace := ["internal/bytealg.abigen_runtime_cmpstring"], unfollowed := true, recurses := true, plainKeys := false, apart := false }
def FnExactPlantFoesSaid : Prop := fnExactPlantFoesRow.holds Try.pinned (OpenSpec.ofChange fnExactPlantFoesSpec)

/-- ITS FALSE NEIGHBOUR: 'it returns false'. Refute it at one input. -/
def fnExactPlantFoesWrong : ChangeSpec := { name := "fnExactPlantFoes", fn := fun _ => fun
  | [d1, d2, d3] => { results := [.lit (.bool false)], args := [d1, d2, d3] }
  | _ => none }
def FnExactPlantFoesWrongFalsely : Prop := fnExactPlantFoesRow.holds Try.pinned (OpenSpec.ofChange fnExactPlantFoesWrong)

/-- 'laws.FnExactPlantBeside': WHATEVER THE INPUT: true; the input reads as it did. -/
def fnExactPlantBesideSpec : ChangeSpec := { name := "fnExactPlantBeside", fn := fun _ => fun
  | [d1, d2] => { results := [.lit (.bool true)], args := [d1, d2] }
  | _ => none }
def fnExactPlantBesideRow : OpenClaim := { program := "ytbdhlcfcmennjab", sum := "cfcef515fd516f10535aec513ecbd43fa25e5e0bf6880034fc4400ae5484083e", func := "loop.example/malthouse/laws.FnExactPlantBeside", spec := "fnExactPlantBeside", inPlace := ["internal/bytealg.abigen_runtime_cmpstring"], unfollowed := true, recurses := true, plainKeys := false, apart := false }
def FnExactPlantBesideSaid : Prop := fnExactPlantBesideRow.holds Try.pinned (OpenSpec.ofChange fnExactPlantBesideSpec)

/-- ITS FALSE NEIGHBOUR: 'it returns false'. Refute it at one input. -/
def fnExactPlantBesideWrong : ChangeSpec := { name := "fnExactPlantBeside", fn := fun _ => fun
  | [d1, d2] => { results := [.lit (.bool false)], args := [d1, d2] }
  | _ => none }
def FnExactPlantBesideWrongFalsely : Prop := fnExactPlantBesideRow.holds Try.pinned (OpenSpec.ofChange fnExactPlantBesideWrong)

/-- 'laws.FnExactPlantGroup': WHATEVER THE INPUT: true; the input reads as it did. -/
def fnExactPlantGroupSpec : ChangeSpec := { name := "fnExactPlantGroup", fn := fun _ => fun
  | [d1, d2, d3] => { results := [.lit (.bool true)], args := [d1, d2, d3] }
  | _ => none }
def fnExactPlantGroupRow : OpenClaim := { program := "ytbdhlcfcmennjab", sum := "cfcef515fd516f10535aec513ecbd43fa25e5e0bf6880034fc4400ae5484083e", func := "loop.example/malthouse/laws.FnExactPlantGroup", spec := "fnExactPlantGroup", inPlace := ["internal/bytealg.abigen_runtime_cmpstring"], unfollowed := true, recurses := true, plainKeys := false, apart := false }
def FnExactPlantGroupSaid : Prop := fnExactPlantGroupRow.holds Try.pinned (OpenSpec.ofChange fnExactPlantGroupSpec)

/-- ITS FALSE NEIGHBOUR: 'it returns false'. Refute it at one input. -/
def fnExactPlantGroupWrong : ChangeSpec := { name := "fnExactPlantGroup", fn := fun _ => fun
  | [d1, d2, d3] => { results := [.lit (.bool false)], args := [d1, d2, d3] }
  | _ => none }
def FnExactPlantGroupWrongFalsely : Prop := fnExactPlantGroupRow.holds Try.pinned (OpenSpec.ofChange fnExactPlantGroupWrong)

/- THE SECOND FORM. 'bulk': how many values and letters a reading holds, each counted each time it is reached (what is shared counts as often as it is met; a slice's spare places count too). A statement '..UptoSaid' is the law's where the arguments, and the package variables that the reading takes, are together of bulk at most 1048576: NARROWER than '..Said'. Prove '..Said' where nothing that the law and all that it calls make is longer than what came in: it says more and counts as full. Else prove '..UptoSaid'. A law counts once. -/
mutual
def uptoBulk {H : Type} : DataW H → Nat
  | .lit (.string bytes) => bytes.length + 1
  | .lit _ => 1
  | .nil => 1
  | .ptr d => uptoBulk d + 1
  | .slice elems spare => uptoBulkAll elems + uptoBulkAll spare + 1
  | .agg parts => uptoBulkAll parts + 1
  | .iface _ d => uptoBulk d + 1
  | .map entries => uptoBulkEntries entries + 1
  | .held _ => 1
def uptoBulkAll {H : Type} : List (DataW H) → Nat
  | [] => 0
  | d :: r => uptoBulk d + uptoBulkAll r
def uptoBulkEntries {H : Type} : List (Lit × DataW H) → Nat
  | [] => 0
  | x :: r => uptoBulkEntry x + uptoBulkEntries r
def uptoBulkEntry {H : Type} : Lit × DataW H → Nat
  | (.string bytes, d) => bytes.length + uptoBulk d + 1
  | (_, d) => uptoBulk d + 1
 end
def uptoSmall : (H : Type) → List (DataW H) → Bool := fun _ ds => decide (uptoBulkAll ds ≤ 1048576)
def OpenSpec.upto (s : _root_.Go.ChangeSpec) : _root_.Go.OpenSpec := { _root_.Go.OpenSpec.ofChange s with cond := some uptoSmall }

/-- 'laws.FnExactPlantValid', WHERE WHAT IT READS IS OF BULK AT MOST 1048576: true; the input reads as it did. -/
def fnExactPlantValidUptoRow : OpenClaim := { program := "ytbdhlcfcmennjab", sum := "cfcef515fd516f10535aec513ecbd43fa25e5e0bf6880034fc4400ae5484083e", func := "loop.example/malthouse/laws.FnExactPlantValid", spec := "fnExactPlantValid", inPlace := ["internal/bytealg.abigen_runtime_cmpstring"], unfollowed := true, recurses := true, plainKeys := false, apart := false, narrowed := true }
def FnExactPlantValidUptoSaid : Prop := fnExactPlantValidUptoRow.holds Try.pinned (OpenSpec.upto fnExactPlantValidSpec)

/-- 'laws.FnExactPlantFoes', WHERE WHAT IT READS IS OF BULK AT MOST 1048576: true; the input reads as it did. -/
def fnExactPlantFoesUptoRow : OpenClaim := { program := "ytbdhlcfcmennjab", sum := "cfcef515fd516f10535aec513ecbd43fa25e5e0bf6880034fc4400ae5484083e", func := "loop.example/malthouse/laws.FnExactPlantFoes", spec := "fnExactPlantFoes", inPlace := ["internal/bytealg.abigen_runtime_cmpstring"], unfollowed := true, recurses := true, plainKeys := false, apart := false, narrowed := true }
def FnExactPlantFoesUptoSaid : Prop := fnExactPlantFoesUptoRow.holds Try.pinned (OpenSpec.upto fnExactPlantFoesSpec)

/-- 'laws.FnExactPlantBeside', WHERE WHAT IT READS IS OF BULK AT MOST 1048576: true; the input reads as it did. -/
def fnExactPlantBesideUptoRow : OpenClaim := { program := "ytbdhlcfcmennjab", sum := "cfcef515fd516f10535aec513ecbd43fa25e5e0bf6880034fc4400ae5484083e", func := "loop.example/malthouse/laws.FnExactPlantBeside", spec := "fnExactPlantBeside", inPlace := ["internal/bytealg.abigen_runtime_cmpstring"], unfollowed := true, recurses := true, plainKeys := false, apart := false, narrowed := true }
def FnExactPlantBesideUptoSaid : Prop := fnExactPlantBesideUptoRow.holds Try.pinned (OpenSpec.upto fnExactPlantBesideSpec)

/-- 'laws.FnExactPlantGroup', WHERE WHAT IT READS IS OF BULK AT MOST 1048576: true; the input reads as it did. -/
def fnExactPlantGroupUptoRow : OpenClaim := { program := "ytbdhlcfcmennjab", sum := "cfcef515fd516f10535aec513ecbd43fa25e5e0bf6880034fc4400ae5484083e", func := "loop.example/malthouse/laws.FnExactPlantGroup", spec := "fnExactPlantGroup", inPlace := ["internal/bytealg.abigen_runtime_cmpstring"], unfollowed := true, recurses := true, plainKeys := false, apart := false, narrowed := true }
def FnExactPlantGroupUptoSaid : Prop := fnExactPlantGroupUptoRow.holds Try.pinned (OpenSpec.upto fnExactPlantGroupSpec)

end Rows
end Go.Proofs.Ytbdhlcfcmennjab
