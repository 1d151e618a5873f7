/-
  Plain: who can go is who can have all they need.
-/
import Derived.Test.YtomfooddehddhaeZpv
namespace Go.Proofs.Ytomfooddehddhae
open Go.RowKit

theorem go_can {T : List ByteArray} {Bs : List DShareBatch} (h : BokP (T, Bs)) {gone : List ByteArray} {q : Nat} (hq : q < Bs.length) : goB (hasM T Bs[q].2.1, hasM T Bs[q].2.2, hasB gone Bs[q].1) (freM T Bs gone) = (!(hasB gone Bs[q].1) && canB Bs q gone) := by
  unfold goB
  cases e : hasB gone Bs[q].1
  · simp only [Bool.not_false, Bool.true_and]
    rw [Bool.eq_iff_iff, decide_eq_true_iff]
    exact can_same h hq e
  · rfl
/-- One goes: what the program keeps then. -/
theorem Lv.gone {T : List ByteArray} {Bs : List DShareBatch} (h : BokP (T, Bs)) {B g : Nat} {w : World} {v : Value} {gone : List ByteArray} {q : Nat} (hq : q < Bs.length) (hg : hasB gone Bs[q].1 = false) (hl : Lv B w g v ((lvL T Bs gone).set q (hasM T Bs[q].2.1, hasM T Bs[q].2.2, true)) (freM T Bs gone + hasM T Bs[q].2.1)) : Lv B w g v (lvL T Bs (gone ++ [Bs[q].1])) (freM T Bs (gone ++ [Bs[q].1])) := by
  rw [go_list h hq, go_free h hq hg] at hl
  exact hl

end Go.Proofs.Ytomfooddehddhae
