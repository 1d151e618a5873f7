/-
  What is answered to somebody who shares, whatever is asked: the program's answer.
-/
import Derived.Test.YtidojjecjjochabGreatDoorZqb
import Derived.Test.YtidojjecjjochabGreatDoorZqe
import Derived.Test.YtidojjecjjochabGreatDoorZpk
namespace Go.Proofs.YtidojjecjjochabGreatDoor
open Go.RowKit Go.Sort

theorem errW_no (nm : ByteArray) : errW nm 0 = .nilIface := by unfold errW; rw [if_pos rfl]
theorem errW_yes (nm : ByteArray) {c : Int} (h : c ≠ 0) : errW nm c = .iface 169 (.agg #[.string nm, .iface 78 (.agg #[.int .i64 c])]) := by unfold errW; rw [if_neg h]; rfl
/-- What an answer is: a book of the call's own, and a code. -/
def AnsW (w : World) (R : DShareBook) (code : Int) (e : Ending) (w' : World) : Prop := ∃ r0 r1 L, e = .returned (.tuple #[.agg #[r0, r1], .int .i64 code]) ∧ PkO w.heap.size w' r0 r1 R.1 L ∧ L.map dH = R.2 ∧ Below w.heap.size w w'
def BehW (w : World) (R : DShareBook) (e : Ending) (w' : World) : Prop := ∃ r0 r1 L, e = .returned (.agg #[r0, r1]) ∧ PkO w.heap.size w' r0 r1 R.1 L ∧ L.map dH = R.2 ∧ Below w.heap.size w w'

theorem PkO.box {B : Nat} {w w' : World} {v0 v1 : Value} {T : List ByteArray} {L : List HB} {gx : Nat} (h : PkO B w v0 v1 T L) (hg : gx < B) (hk : ∀ b, b ≠ gx → w'.heap[b]? = w.heap[b]?) : PkO B w' v0 v1 T L := by
  have kp : ∀ (q : Nat), B ≤ q → w'.heap[q]? = w.heap[q]? := fun q hq => hk q (by omega)
  have ks : ∀ {v : Value} {l : List ByteArray}, Row w B 9 1 eS v l → Row w' B 9 1 eS v l := fun hr => Row.block hr fun q hq => kp q (World.ownsRow.lt hr q hq).1
  exact ⟨ks h.th, h.zt, ⟨Row.block h.bs.ro fun q hq => kp q (World.ownsRow.lt h.bs.ro q hq).1, fun x hx => ⟨ks (h.bs.el x hx).h, ks (h.bs.el x hx).n, (h.bs.el x hx).z, (h.bs.el x hx).zh, (h.bs.el x hx).zn⟩⟩, h.nd⟩

/-- The two cells of the answer's box written. -/
theorem box2_put {W : World} {g : Nat} {x0 x1 a b : Value} (h : W.heap[g]? = some (.cells #[x0, x1] 30 (0, 0))) : ((W.setCell ⟨g, 0, none⟩ a).setCell ⟨g, 1, none⟩ b).heap[g]? = some (.cells #[a, b] 30 (0, 0)) ∧ (∀ q, q ≠ g → ((W.setCell ⟨g, 0, none⟩ a).setCell ⟨g, 1, none⟩ b).heap[q]? = W.heap[q]?) ∧ Below g W ((W.setCell ⟨g, 0, none⟩ a).setCell ⟨g, 1, none⟩ b) :=
  ⟨by rw [set_row (set_row h 0 a) 1 b]; rfl, fun q hq => (Below.heap_setCell _ _ _ _ hq).trans (Below.heap_setCell _ _ _ _ hq), ((Below.refl _ _).setCell (p := ⟨g, 0, none⟩) (Nat.le_refl _) a).setCell (p := ⟨g, 1, none⟩) (Nat.le_refl _) b⟩

end Go.Proofs.YtidojjecjjochabGreatDoor
