/-
  Whatever the plant, valid or not, and whatever the job, the law FnExactCtlJobAsks returns true: CtlJobAsks answers as its model does, field by field; it writes into no argument and keeps nothing of one; its answer owns its memory, behind another call too; and both arguments read as they did. No condition.
-/
import Derived.Test.YtndacfockllehaaGreatRows
import Derived.Test.YtndacfockllehaaGreatM11
import Derived.Test.YtndacfockllehaaGreatJq
import Derived.WalkKit
import Derived.ProofKit
import Derived.OpenShut
import Derived.ShutString
import Derived.ChangeOld
import Derived.Below
namespace Go.Proofs.YtndacfockllehaaGreat
open Go.ChangeShapes Go.WideShapes Go.ChangeAt Go.RowKit

theorem int_ok {a : Int} (h : (Lit.int .i64 a).wf = true) : OkI a := by
  simp [Lit.wf] at h
  exact h
theorem own : ownKnob Tryz.prog.godebug = none := by kernel_rfl
theorem laidOut : laidOutB Tryz.prog = true := by kernel_rfl

theorem cStr : Tryz.prog.cellsOf 9 = 1 := by kernel_rfl
theorem cInt : Tryz.prog.cellsOf 3 = 1 := by kernel_rfl
theorem cBool : Tryz.prog.cellsOf 4 = 1 := by kernel_rfl
theorem cLStr : Tryz.prog.cellsOf 22 = 1 := by kernel_rfl
theorem cRoute : Tryz.prog.cellsOf 29 = 2 := by kernel_rfl
theorem cJob : Tryz.prog.cellsOf 31 = 11 := by kernel_rfl

section
variable {H : Type} {enc : TypeId × Value → H} {w : World} {base : Nat} {spare : Nat → Bool} {held : Bool}
theorem ofInt {n : Nat} {cs : List Value} {y : DataW H × List MemPlace} (h : DataW.trod enc Tryz.prog w base spare held n 3 cs = some y) : ∃ a : Int, cs = [.int .i64 a] ∧ OkI a := by
  obtain ⟨s, h1, _, h2⟩ := DataW.trod_int Tryz.underlying3 h
  exact ⟨s, h1, int_ok h2⟩
theorem ofBool {n : Nat} {cs : List Value} {y : DataW H × List MemPlace} (h : DataW.trod enc Tryz.prog w base spare held n 4 cs = some y) : ∃ a : Bool, cs = [.bool a] := by
  obtain ⟨s, h1, _⟩ := DataW.trod_bool Tryz.underlying4 h
  exact ⟨s, h1⟩
set_option maxRecDepth 100000 in
theorem job_of {r : Reach} {b0 : Nat} {v : Value} {d : DataW H} {p : List MemPlace} (hv : Value.okWide Tryz.prog w r b0 31 v) (h : DataW.Trod enc Tryz.prog w base spare held 31 v d p) :
    ∃ (num kind am st mv : Int) (dn : Bool) (vp vv v3 v4 v7 : Value) (m : Nat) (P : Nat → ByteArray) (k : Nat) (Q : Nat → ByteArray) (n3 : Nat) (f3 : Nat → ByteArray) (n4 : Nat) (f4 : Nat → ByteArray) (n7 : Nat) (f7 : Nat → ByteArray), v = .agg #[.int .i64 num, .int .i64 kind, vp, vv, v3, v4, .int .i64 am, .int .i64 st, v7, .int .i64 mv, .bool dn] ∧ JAt w.heap.size w vp vv v3 v4 v7 m P k Q n3 f3 n4 f4 n7 f7 ∧ JZ m P k Q n3 f3 n4 f4 n7 f7 ∧ OkI num ∧ OkI kind ∧ OkI am := by
  obtain ⟨cs, rfl, hsz⟩ := okWide_struct Tryz.underlying31 hv
  obtain ⟨n, hm⟩ := h
  obtain ⟨cs⟩ := cs
  have hl : cs.length = 11 := hsz.trans cJob
  clear hsz hv
  match cs, hl with
  | [x0, x1, x2, x3, x4, x5, x6, x7, x8, x9, x10], _ =>
    have hm : DataW.trod enc Tryz.prog w base spare held n 31 [x0, x1, x2, x3, x4, x5, x6, x7, x8, x9, x10] = some (d, p) := hm
    obtain ⟨xs, m, _, _, _, hlen, hf⟩ := DataW.trod_struct Tryz.underlying31 hm
    have g0 : DataW.trod enc Tryz.prog w base spare held m 3 [x0] = xs[0]? := by simpa [cStr, cInt, cBool, cLStr, cRoute] using hf 0 _ rfl
    have g1 : DataW.trod enc Tryz.prog w base spare held m 3 [x1] = xs[1]? := by simpa [cStr, cInt, cBool, cLStr, cRoute] using hf 1 _ rfl
    have g2 : DataW.trod enc Tryz.prog w base spare held m 29 [x2, x3] = xs[2]? := by simpa [cStr, cInt, cBool, cLStr, cRoute] using hf 2 _ rfl
    have g3 : DataW.trod enc Tryz.prog w base spare held m 22 [x4] = xs[3]? := by simpa [cStr, cInt, cBool, cLStr, cRoute] using hf 3 _ rfl
    have g4 : DataW.trod enc Tryz.prog w base spare held m 22 [x5] = xs[4]? := by simpa [cStr, cInt, cBool, cLStr, cRoute] using hf 4 _ rfl
    have g5 : DataW.trod enc Tryz.prog w base spare held m 3 [x6] = xs[5]? := by simpa [cStr, cInt, cBool, cLStr, cRoute] using hf 5 _ rfl
    have g6 : DataW.trod enc Tryz.prog w base spare held m 3 [x7] = xs[6]? := by simpa [cStr, cInt, cBool, cLStr, cRoute] using hf 6 _ rfl
    have g7 : DataW.trod enc Tryz.prog w base spare held m 22 [x8] = xs[7]? := by simpa [cStr, cInt, cBool, cLStr, cRoute] using hf 7 _ rfl
    have g8 : DataW.trod enc Tryz.prog w base spare held m 3 [x9] = xs[8]? := by simpa [cStr, cInt, cBool, cLStr, cRoute] using hf 8 _ rfl
    have g9 : DataW.trod enc Tryz.prog w base spare held m 4 [x10] = xs[9]? := by simpa [cStr, cInt, cBool, cLStr, cRoute] using hf 9 _ rfl
    rw [List.getElem?_eq_getElem (by rw [hlen]; decide)] at g0 g1 g2 g3 g4 g5 g6 g7 g8 g9
    obtain ⟨ys, m2, _, _, _, hlen2, hf2⟩ := DataW.trod_struct Tryz.underlying29 g2
    have r0 : DataW.trod enc Tryz.prog w base spare held m2 22 [x2] = ys[0]? := by simpa [cLStr] using hf2 0 _ rfl
    have r1 : DataW.trod enc Tryz.prog w base spare held m2 22 [x3] = ys[1]? := by simpa [cLStr] using hf2 1 _ rfl
    rw [List.getElem?_eq_getElem (by rw [hlen2]; decide)] at r0 r1
    obtain ⟨i0, e0, o0⟩ := ofInt g0
    obtain ⟨i1, e1, o1⟩ := ofInt g1
    obtain ⟨i5, e5, o5⟩ := ofInt g5
    obtain ⟨i6, e6, _⟩ := ofInt g6
    obtain ⟨i8, e8, _⟩ := ofInt g8
    obtain ⟨i9, e9⟩ := ofBool g9
    simp at e0 e1 e5 e6 e8 e9
    subst e0 e1 e5 e6 e8 e9
    obtain ⟨m', P, a0, z0⟩ := lst_str r0
    obtain ⟨k, Q, a1, z1⟩ := lst_str r1
    obtain ⟨n3, f3, a3, z3⟩ := lst_str g3
    obtain ⟨n4, f4, a4, z4⟩ := lst_str g4
    obtain ⟨n7, f7, a7, z7⟩ := lst_str g7
    exact ⟨i0, i1, i5, i6, i8, i9, x2, x3, x4, x5, x8, m', P, k, Q, n3, f3, n4, f4, n7, f7, rfl, ⟨⟨a0, a1⟩, a3, a4, a7⟩, ⟨z0, z1, z3, z4, z7⟩, o0, o1, o5⟩
end

set_option maxRecDepth 100000 in
theorem lifted (os : Os) (started : os.Started) (H : Type) (enc : TypeId × Value → H) :
    ReturnsInHanded {} Tryz.checked os 3 .any (Rows.fnExactCtlJobAsksSpec.pre6 enc Tryz.prog Tryz.f3 Rows.fnExactCtlJobAsksRow.domain false) (Rows.fnExactCtlJobAsksSpec.post enc Tryz.prog Tryz.f3 false true false false) := by
  refine returnsInHanded_of_change (C := Tryz.checked) own started (by kernel_rfl) Tryz.func3
    (ChangeSpec.witness6 (enc := enc) (C := Tryz.checked) false ⟨#[], #[.agg #[.slice none 0 0, .slice none 0 0, .slice none 0 0, .slice none 0 0], .agg #[.int .i64 0, .int .i64 0, .slice none 0 0, .slice none 0 0, .slice none 0 0, .slice none 0 0, .int .i64 0, .int .i64 0, .slice none 0 0, .int .i64 0, .bool false]], []⟩ 8 (by kernel_rfl) (by kernel_rfl) (by kernel_rfl) (by kernel_rfl)) ?_
  intro W base args ds gs before hval0 hW hcnd _
  have hval : ∀ (j : Nat) t v, Tryz.f3.params[j]? = some t → args[j]? = some v → Value.okWide Tryz.prog W .any base t v := hval0
  have hW' := hW
  obtain ⟨p, q, hA0, hV, rfl, hfz, hnd⟩ := hW
  have hA : DataW.TrodAll enc Tryz.prog W 0 (fun _ => true) true Tryz.f3.params.toList args.toList ds p := hA0
  rw [Tryz.params3] at hA hval
  obtain ⟨v0, vs0, d0, ds0, p0, q0, hargs, rfl, rfl, h0, r0⟩ := trodAll_cons hA
  obtain ⟨v1, vs1, d1, ds1, p1, q1, rfl, rfl, rfl, h1, r1⟩ := trodAll_cons r0
  obtain ⟨rfl, rfl, rfl⟩ := trodAll_nil r1
  obtain rfl : args = #[v0, v1] := by cases args; simp_all
  obtain ⟨rfl, rfl⟩ := trodVars_none hV
  have k0 := h0
  have k1 := h1
  have lt0 : ∀ x ∈ p0, x.block < W.heap.size := by obtain ⟨m, hm⟩ := k0; exact DataW.trod_lt m _ _ _ hm
  have lt1 : ∀ x ∈ p1, x.block < W.heap.size := by obtain ⟨m, hm⟩ := k1; exact DataW.trod_lt m _ _ _ hm
  obtain ⟨s0, s1, s2, s3, D, rfl, hP, hD⟩ := plant_of (hval 0 27 v0 rfl rfl) h0
  obtain ⟨num, kind, am, st, mv, dn, vp, vv, v3, v4, v7, m, P, k, Q, n3, f3, n4, f4, n7, f7, rfl, hJ, hZ, o0, o1, o5⟩ := job_of (hval 1 31 v1 rfl rfl) h1
  clear hA0 hval0
  refine (lawJq_any W.heap.size s0 s1 s2 s3 D num kind am st mv dn vp vv v3 v4 v7 m k n3 n4 n7 P Q f3 f4 f7 W hP hJ (Nat.le_refl _) hD hZ o0 o1 o5).mono fun e W' ⟨he, bel⟩ => ?_
  subst he
  exact ⟨_, rfl, _, _, _, [], _, [], hW', trodAll_mk1 (shut_bool Tryz.underlying4 _), (trodAll_cons_mk (Below.trod laidOut (by kernel_rfl) (of_decide_eq_true (by kernel_rfl)) k0 bel lt0) (trodAll_cons_mk (Below.trod laidOut (by kernel_rfl) (of_decide_eq_true (by kernel_rfl)) k1 bel lt1) trodAll_mk0)), rfl, bel.frame _, fun h => by cases h⟩

theorem proved : Rows.FnExactCtlJobAsksSaid :=
  OpenClaim.holds_of_wide 3 Tryz.f3 rfl rfl rfl rfl rfl rfl rfl ⟨rfl, rfl, rfl, rfl, rfl⟩ rfl rfl rfl rfl rfl (by kernel_rfl) Tryz.func3 (by kernel_rfl)
    (of_decide_eq_true (by kernel_rfl)) (by unfold Func.isWrapper; first | (rw [if_pos (by decide +kernel)]; kernel_rfl) | (rw [if_neg (by decide +kernel)]; exact ⟨rfl, rfl⟩))
    (fun os started H enc _ => lifted os started H enc)
#print axioms proved
end Go.Proofs.YtndacfockllehaaGreat
