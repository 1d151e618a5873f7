/-
  Several texts in one.
-/
import Derived.Test.YtidojjecjjochacGreatDoorNa
import Derived.Test.YtidojjecjjochacGreatDoorLo
import Derived.Test.YtidojjecjjochacGreatDoorPq
import Derived.Test.YtidojjecjjochacGreatDoorHi
/-
  Rows of texts of the call's own.
-/
namespace Go.Proofs.YtidojjecjjochacGreatDoor
open Go.RowKit

theorem own_built {base e size k : Nat} {w : World} {c : Array Value} (hb : base ≤ w.heap.size) (hk : k ≤ maxLen) (hc : c.size = k * size) : (w.alloc (.cells c e)).ownsRow base e size (.slice (some ⟨w.heap.size, 0, none⟩) k k) k c.toList :=
  ⟨by simp [hc], .inr ⟨w.heap.size, k, c, rfl, hb, heap_alloc_new w _, Nat.le_refl _, hk, hc, by rw [List.take_of_length_le (by simp [hc])]⟩⟩

def eS (a : ByteArray) (_ : Nat) : Value := .string a

abbrev OkS (a : ByteArray) : Prop := a.size ≤ maxLen

theorem flatS : Flat 1 eS OkS := ⟨rfl, fun h => ⟨fun j hj => by obtain rfl : j = 0 := (by omega); exact h.1, h.2⟩, fun h => ⟨rfl, h⟩, fun _ _ => rfl⟩

theorem infS : (Tryz.prog.info? 9).map (fun i => (i.zero, i.size, i.bytes)) = some (some (.string ByteArray.empty), 1, 16) := by kernel_rfl

theorem elS : ElT Tryz.prog 22 9 1 16 := by
  obtain ⟨i0, hi, hz0, hz1, hz2⟩ := info_parts infS
  exact ⟨by kernel_rfl, ⟨i0, _, hi, hz0, hz1, hz2, rfl⟩, by decide⟩

theorem flat_on {α : Type} [Own α] {k : Nat} {e : α → Nat → Value} {ok : α → Prop} (F : Flat k e ok) (hon : ∀ {w : World} {a : α}, ok a → Own.On (fun _ => False) w a (e a)) {w : World} {B : Nat} {t : TypeId} {v : Value} {l : List α} (h : Row w B t k e v l) {S : Nat → Prop} (hS : ∀ g, v.ownBlock = some g → S g) (hok : ∀ x ∈ l, ok x) : OnL S w l v := by
  have := Row.on h id F.wid hS (fun _ _ => False) (fun _ _ h => h.elim) (fun _ _ _ h => h.elim) (fun i hi => hon (hok _ (List.getElem_mem hi)))
  rwa [List.map_id] at this

theorem onS {w : World} {B : Nat} {t : TypeId} {v : Value} {l : List ByteArray} (h : Row w B t 1 eS v l) {S : Nat → Prop} (hS : ∀ g, v.ownBlock = some g → S g) (hok : ∀ x ∈ l, OkS x) : OnL S w l v := flat_on flatS (fun h => ⟨rfl, h⟩) h hS hok

end Go.Proofs.YtidojjecjjochacGreatDoor

/-
  A law for a call among operations whose order is open. No program is named here.
-/
namespace Go.Proofs.YtidojjecjjochacGreatDoor
open Go.RowKit Go.Sort

/-- A call that alone may come up now, and hands back one value. -/
theorem call1 {P : Program} {md : Region.Mode} {ops : Array Oper} {C : World → Prop} {n f : Nat} {L : Array Bool → Act → World → Prop} {listed : Array Bool} {i dc : Nat} {oc : Oper} {a : Act} {w : World} {fn : FuncId} {args : Array Value}
    (hc : ops[i]? = some oc ∧ oc.guard = none ∧ oc.dst = some dc ∧ i < n) (r0 : Region.ready md ops listed = [i])
    (run : (execOp a.eval oc).run P w = .ok (.enter fn args) w) (con : Calls P fn args w fun e w' => ∃ v, e = .returned v ∧ C w' ∧ anyC P md ops C n L f (listed.setIfInBounds i true) (a.put (some dc) v) w') :
    anyC P md ops C n L (f + 1) listed a w := by
  obtain ⟨hc1, hc2, hc3, hc4⟩ := hc
  refine anyC_call i r0 hc4 ⟨oc, hc1, hc2, fn, args, run, con.mono fun e w' ⟨v, he, hC, hk⟩ => ⟨v, he, hC, ?_⟩⟩
  rw [hc3]; exact hk

end Go.Proofs.YtidojjecjjochacGreatDoor
