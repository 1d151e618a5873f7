/-
  Whatever the phase, ok or not, the law FnExactRecPhaseOk returns true: RecPhaseOk answers as its model does; and the phase reads as it did. No condition.
-/
import Derived.Test.YtjogdidccgnhfaaRows
import Derived.Test.YtjogdidccgnhfaaXru
import Derived.Test.YtjogdidccgnhfaaXlp
import Derived.Test.YtjogdidccgnhfaaXpp
import Derived.WalkKit
import Derived.ProofKit
import Derived.OpenShut
import Derived.ShutString
import Derived.ChangeOld
import Derived.Below
namespace Go.Proofs.Ytjogdidccgnhfaa
open Go.ChangeShapes Go.WideShapes Go.ChangeAt Go.RowKit
open Go.ChangeMaps (open_string shut_string)

theorem own : ownKnob Try.prog.godebug = none := by kernel_rfl
theorem laidOut : laidOutB Try.prog = true := by kernel_rfl

set_option maxRecDepth 100000 in
theorem lifted (os : Os) (started : os.Started) (H : Type) (enc : TypeId × Value → H) :
    ReturnsInHanded {} Try.checked os 3 .any (Rows.fnExactRecPhaseOkSpec.pre6 enc Try.prog Try.f3 Rows.fnExactRecPhaseOkRow.domain false) (Rows.fnExactRecPhaseOkSpec.post enc Try.prog Try.f3 false true false false) := by
  refine returnsInHanded_of_change (C := Try.checked) own started (by kernel_rfl) Try.func3
    (ChangeSpec.witness6 (enc := enc) (C := Try.checked) false ⟨#[], #[.agg #[.string ⟨#[]⟩, .int .i64 0, .string ⟨#[]⟩, .string ⟨#[]⟩, .int .i64 0, .int .i64 0, .string ⟨#[]⟩, .string ⟨#[]⟩]], []⟩ 8 (by kernel_rfl) (by kernel_rfl) (by kernel_rfl) (by kernel_rfl)) ?_
  intro W base args ds gs before hval0 hW hcnd _
  have hval : ∀ (j : Nat) t v, Try.f3.params[j]? = some t → args[j]? = some v → Value.okWide Try.prog W .any base t v := hval0
  have hW' := hW
  obtain ⟨p, q, hA0, hV, rfl, hfz, hnd⟩ := hW
  have hA : DataW.TrodAll enc Try.prog W 0 (fun _ => true) true Try.f3.params.toList args.toList ds p := hA0
  rw [Try.params3] at hA hval
  obtain ⟨v0, vs0, d0, ds0, p0, q0, hargs, rfl, rfl, h0, r0⟩ := trodAll_cons hA
  obtain ⟨rfl, rfl, rfl⟩ := trodAll_nil r0
  obtain rfl : args = #[v0] := by cases args; simp_all
  obtain ⟨rfl, rfl⟩ := trodVars_none hV
  have k0 := h0
  have lt0 : ∀ x ∈ p0, x.block < W.heap.size := by obtain ⟨m, hm⟩ := k0; exact DataW.trod_lt m _ _ _ hm
  obtain ⟨⟨nm, kd, a, b, n, wi, th, el⟩, c, rfl, hP⟩ := ofRecPhase (hval 0 23 v0 rfl rfl) h0
  obtain ⟨⟨e0, _⟩, ⟨e1, _, _⟩, ⟨e2, _⟩, ⟨e3, _⟩, ⟨e4, _, _⟩, ⟨e5, _, _⟩, ⟨e6, _⟩, ⟨e7, _⟩⟩ := at_DRecPhase.1 hP
  have hQ : Lay.At (fun b => b < W.heap.size) W ((nm, kd, a, b, n, wi, th, el) : DRecPhase) (cs [.string nm, .int .i64 kd, .string a, .string b, .int .i64 n, .int .i64 wi, .string th, .string el]) := by
    obtain ⟨⟨_, z0⟩, ⟨_, z1⟩, ⟨_, z2⟩, ⟨_, z3⟩, ⟨_, z4⟩, ⟨_, z5⟩, ⟨_, z6⟩, ⟨_, z7⟩⟩ := at_DRecPhase.1 hP
    exact at_DRecPhase.2 ⟨⟨rfl, z0⟩, ⟨rfl, z1⟩, ⟨rfl, z2⟩, ⟨rfl, z3⟩, ⟨rfl, z4⟩, ⟨rfl, z5⟩, ⟨rfl, z6⟩, ⟨rfl, z7⟩⟩
  clear hA0 hval0 hP
  have HL : Calls Try.prog 3 #[.agg #[c 0, c 1, c 2, c 3, c 4, c 5, c 6, c 7]] W fun e w' => e = .returned (.bool true) ∧ Below W.heap.size W w' := by
    rw [e0, e1, e2, e3, e4, e5, e6, e7]
    exact lawp_any phaseI_any _ nm a b th el kd n wi W hQ (fun b hb => hb)
  refine HL.mono fun e W' ⟨he, bel⟩ => ?_
  subst he
  exact ⟨_, rfl, _, _, _, [], _, [], hW', trodAll_mk1 (shut_bool Try.underlying4 _), (trodAll_cons_mk (Below.trod laidOut (by kernel_rfl) (of_decide_eq_true (by kernel_rfl)) k0 bel lt0) trodAll_mk0), rfl, bel.frame _, fun h => by cases h⟩

theorem proved : Rows.FnExactRecPhaseOkSaid :=
  OpenClaim.holds_of_wide 3 Try.f3 rfl rfl rfl rfl rfl rfl rfl ⟨rfl, rfl, rfl, rfl, rfl⟩ rfl rfl rfl rfl rfl (by kernel_rfl) Try.func3 (by kernel_rfl)
    (of_decide_eq_true (by kernel_rfl)) (by unfold Func.isWrapper; first | (rw [if_pos (by decide +kernel)]; kernel_rfl) | (rw [if_neg (by decide +kernel)]; exact ⟨rfl, rfl⟩))
    (fun os started H enc _ => lifted os started H enc)
#print axioms proved
end Go.Proofs.Ytjogdidccgnhfaa
