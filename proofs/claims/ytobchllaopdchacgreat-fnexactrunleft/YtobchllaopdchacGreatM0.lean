/-
  Several texts in one.
-/
import Derived.Test.YtobchllaopdchacGreatChecked
import Derived.WalkKit
import Derived.WalkSpells
import Derived.WalkLawsBesides
import Derived.BigQuiet
import Derived.Deep.QuietTactic
import Derived.Deep.RegionWith
import Derived.Lib.QuietBelow
import Derived.Lib.OthersKept
import Derived.Laws.MakeOwn
import Derived.Laws.ResultCell
import Derived.Deep.Slices
import Derived.Lib.SmallJoins
import Derived.ProofKit
namespace Go.Proofs.YtobchllaopdchacGreat
open Go.RowKit
def Same (S : Nat → Prop) (w w' : World) : Prop := ∀ b, S b → w'.heap[b]? = w.heap[b]?
theorem Same.cell {S : Nat → Prop} {w w' : World} (h : Same S w w') {b o : Nat} (hb : S b) {v : Value} (hc : w.cell? ⟨b, o, none⟩ = some v) : w'.cell? ⟨b, o, none⟩ = some v :=
  (World.cell?_of_block (w := w) (a := ⟨b, o, none⟩) (h b hb)).trans hc
theorem Same.of_below {S : Nat → Prop} {B : Nat} {w w' : World} (h : Below B w w') (hS : ∀ b, S b → b < B) : Same S w w' := fun b hb => h.block b (hS b hb)
theorem Same.of_set {S : Nat → Prop} (w : World) (p : Addr) (x : Value) (hS : ¬ S p.block) : Same S w (w.setCell p x) := fun b hb => Below.heap_setCell w p x b (fun e => hS (e ▸ hb))
theorem Same.of_alloc {S : Nat → Prop} (w : World) (o : Obj) (hS : ∀ b, S b → b < w.heap.size) : Same S w (w.alloc o) := fun b hb => Below.heap_alloc w o b (hS b hb)
theorem Same.trans {S : Nat → Prop} {w w' w'' : World} (h : Same S w w') (h' : Same S w' w'') : Same S w w'' := fun b hb => (h' b hb).trans (h b hb)
class Lay (α : Type) where
  width : Nat
  At : (Nat → Prop) → World → α → (Nat → Value) → Prop
  tot : α → Nat
  same : ∀ {S : Nat → Prop} {w w' : World} {a : α} {c : Nat → Value}, At S w a c → Same S w w' → At S w' a c
  up : ∀ {S S' : Nat → Prop} {w : World} {a : α} {c : Nat → Value}, At S w a c → (∀ b, S b → S' b) → At S' w a c
  ext : ∀ {S : Nat → Prop} {w : World} {a : α} {c c' : Nat → Value}, At S w a c → (∀ j, j < width → c' j = c j) → At S w a c'
instance : Lay ByteArray where
  width := 1
  At := fun _ _ a c => c 0 = .string a ∧ a.size ≤ maxLen
  tot := fun a => a.size
  same := fun h _ => h
  up := fun h _ => h
  ext := fun h e => ⟨(e 0 (by omega)).trans h.1, h.2⟩
instance : Lay Int where
  width := 1
  At := fun _ _ a c => c 0 = .int .i64 a ∧ -9223372036854775808 ≤ a ∧ a ≤ 9223372036854775807
  tot := fun _ => 0
  same := fun h _ => h
  up := fun h _ => h
  ext := fun h e => ⟨(e 0 (by omega)).trans h.1, h.2⟩
instance : Lay Bool where
  width := 1
  At := fun _ _ a c => c 0 = .bool a
  tot := fun _ => 0
  same := fun h _ => h
  up := fun h _ => h
  ext := fun h e => (e 0 (by omega)).trans h
instance {α β : Type} [Lay α] [Lay β] : Lay (α × β) where
  width := Lay.width α + Lay.width β
  At := fun S w a c => Lay.At S w a.1 c ∧ Lay.At S w a.2 (fun j => c (Lay.width α + j))
  tot := fun a => Lay.tot a.1 + Lay.tot a.2
  same := fun h e => ⟨Lay.same h.1 e, Lay.same h.2 e⟩
  up := fun h e => ⟨Lay.up h.1 e, Lay.up h.2 e⟩
  ext := fun h e => ⟨Lay.ext h.1 (fun j hj => e j (by omega)), Lay.ext h.2 (fun j hj => e _ (by omega))⟩
def AtL {α : Type} [Lay α] (S : Nat → Prop) (w : World) (l : List α) (v : Value) : Prop :=
  ∃ oa cap, v = .slice oa l.length cap ∧ (l.length ≤ maxLen ∧ l.length ≤ cap ∧ Hid (oa = none → cap = 0)) ∧ ∀ i (h : i < l.length), ∃ b off, oa = some ⟨b, off, none⟩ ∧ S b ∧ ∃ c, (∀ j, j < Lay.width α → w.cell? ⟨b, off + i * Lay.width α + j, none⟩ = some (c j)) ∧ Lay.At S w l[i] c
theorem AtL.same {α : Type} [Lay α] {S : Nat → Prop} {w w' : World} {l : List α} {v : Value} (h : AtL S w l v) (e : Same S w w') : AtL S w' l v := by
  obtain ⟨oa, cap, hv, hn, hc⟩ := h
  refine ⟨oa, cap, hv, hn, fun i hi => ?_⟩
  obtain ⟨b, off, h1, h2, c, h3, h4⟩ := hc i hi
  exact ⟨b, off, h1, h2, c, fun j hj => e.cell h2 (h3 j hj), Lay.same h4 e⟩
theorem AtL.up {α : Type} [Lay α] {S S' : Nat → Prop} {w : World} {l : List α} {v : Value} (h : AtL S w l v) (e : ∀ b, S b → S' b) : AtL S' w l v := by
  obtain ⟨oa, cap, hv, hn, hc⟩ := h
  refine ⟨oa, cap, hv, hn, fun i hi => ?_⟩
  obtain ⟨b, off, h1, h2, c, h3, h4⟩ := hc i hi
  exact ⟨b, off, h1, e b h2, c, h3, Lay.up h4 e⟩
def sumTo {α : Type} [Lay α] (l : List α) (k : Nat) : Nat := ((l.take k).map Lay.tot).sum
def totL {α : Type} [Lay α] (l : List α) : Nat := l.length + sumTo l l.length
instance {α : Type} [Lay α] : Lay (List α) where
  width := 1
  At := fun S w l c => AtL S w l (c 0)
  tot := totL
  same := fun h e => AtL.same h e
  up := fun h e => AtL.up h e
  ext := fun h e => by rw [e 0 (by omega)]; exact h
theorem mem_le_sum : ∀ (l : List Nat) (x : Nat), x ∈ l → x ≤ l.sum
  | [], x, h => by cases h
  | y :: l, x, h => by
    rw [List.sum_cons]
    rcases List.mem_cons.1 h with e | h
    · omega
    · have := mem_le_sum l x h; omega
section
variable {α : Type} [Lay α]
theorem sumTo_zero (l : List α) : sumTo l 0 = 0 := by simp [sumTo]
theorem sumTo_succ (l : List α) (k : Nat) (h : k < l.length) : sumTo l (k + 1) = sumTo l k + Lay.tot l[k] := by
  simp only [sumTo]
  rw [List.take_add_one, List.getElem?_eq_getElem h]
  rw [List.map_append, List.sum_append]
  rfl
theorem sumTo_le (l : List α) (k : Nat) (h : k < l.length) : Lay.tot l[k] ≤ sumTo l l.length := by
  have e : sumTo l l.length = (l.map Lay.tot).sum := by simp [sumTo]
  rw [e]
  exact mem_le_sum _ _ (List.mem_map.2 ⟨_, List.getElem_mem h, rfl⟩)
theorem totL_len (l : List α) : l.length ≤ totL l := by unfold totL; omega
theorem totL_el (l : List α) (k : Nat) (h : k < l.length) : Lay.tot l[k] ≤ totL l := by
  have := sumTo_le l k h; unfold totL; omega
end
theorem width_str : Lay.width ByteArray = 1 := rfl
theorem at_str {S : Nat → Prop} {w : World} {a : ByteArray} {c : Nat → Value} : Lay.At S w a c ↔ c 0 = .string a ∧ a.size ≤ maxLen := Iff.rfl
theorem tot_str {a : ByteArray} : Lay.tot a = a.size := rfl
def cs (l : List Value) (j : Nat) : Value := l.getD j (.bool false)
theorem cell_row {w : World} {g : Nat} {c : Array Value} {t : TypeId} (h : w.heap[g]? = some (.cells c t (0, 0))) (i : Nat) (v : Value) (hi : c[i]? = some v) : w.cell? ⟨g, i, none⟩ = some v ∧ w.frozen? ⟨g, i, none⟩ = false := by
  constructor
  · simp [World.cell?, h, hi]
  · simp [World.frozen?, h]
theorem set_row {w : World} {g : Nat} {c : Array Value} {t : TypeId} (h : w.heap[g]? = some (.cells c t (0, 0))) (i : Nat) (v : Value) : (w.setCell ⟨g, i, none⟩ v).heap[g]? = some (.cells (c.setIfInBounds i v) t (0, 0)) := by
  simp [World.setCell, Array.getElem?_modify, h]
theorem cell_past {w : World} {b o : Nat} {v : Value} (h : w.cell? ⟨b, o, none⟩ = some v) (hb : b < w.heap.size) (ob : Obj) : (w.alloc ob).cell? ⟨b, o, none⟩ = some v :=
  (World.cell?_of_block (w := w) (a := ⟨b, o, none⟩) (Below.heap_alloc w ob b hb)).trans h
structure Cp (ta tr : TypeId) (w u : World) (a r c : Array Value) : Prop where
  arg : u.heap[w.heap.size]? = some (.cells a ta (0, 0))
  res : u.heap[w.heap.size + 1]? = some (.cells r tr (0, 0))
  out : u.heap[w.heap.size + 1 + 1]? = some (.cells c tr (0, 0))
  bel : Below w.heap.size w u
theorem Cp.sz {ta tr : TypeId} {w u : World} {a r c : Array Value} (h : Cp ta tr w u a r c) : w.heap.size + 1 + 1 + 1 ≤ u.heap.size := (Array.getElem?_eq_some_iff.1 h.out).1
theorem Cp.next {ta tr : TypeId} {w u u' : World} {a r c : Array Value} (h : Cp ta tr w u a r c) (hb : Below u.heap.size u u') : Cp ta tr w u' a r c := by
  have hs := h.sz
  exact ⟨(hb.block _ (by omega)).trans h.arg, (hb.block _ (by omega)).trans h.res, (hb.block _ (by omega)).trans h.out, h.bel.trans (hb.mono (by omega))⟩
theorem Cp.put {ta tr : TypeId} {w u : World} {a r c : Array Value} (h : Cp ta tr w u a r c) (j : Nat) (x : Value) : Cp ta tr w (u.setCell ⟨w.heap.size + 1 + 1, j, none⟩ x) a r (c.setIfInBounds j x) :=
  ⟨(Below.heap_setCell _ _ _ _ (by show w.heap.size ≠ w.heap.size + 1 + 1; omega)).trans h.arg, (Below.heap_setCell _ _ _ _ (by show w.heap.size + 1 ≠ w.heap.size + 1 + 1; omega)).trans h.res, set_row h.out j x, h.bel.setCell (by show w.heap.size ≤ w.heap.size + 1 + 1; omega) x⟩
theorem Cp.ret {ta tr : TypeId} {w u : World} {a r c : Array Value} (h : Cp ta tr w u a r c) (j : Nat) (x : Value) : Cp ta tr w (u.setCell ⟨w.heap.size + 1, j, none⟩ x) a (r.setIfInBounds j x) c :=
  ⟨(Below.heap_setCell _ _ _ _ (by show w.heap.size ≠ w.heap.size + 1; omega)).trans h.arg, set_row h.res j x, (Below.heap_setCell _ _ _ _ (by show w.heap.size + 1 + 1 ≠ w.heap.size + 1; omega)).trans h.out, h.bel.setCell (by show w.heap.size ≤ w.heap.size + 1; omega) x⟩
theorem cp_init (ta tr : TypeId) (w : World) (a r c : Array Value) : Cp ta tr w (((w.alloc (.cells a ta)).alloc (.cells r tr)).alloc (.cells c tr)) a r c := by
  have e1 : (w.alloc (.cells a ta)).heap.size = w.heap.size + 1 := by simp
  have e2 : ((w.alloc (.cells a ta)).alloc (.cells r tr)).heap.size = w.heap.size + 1 + 1 := by simp
  refine ⟨?_, ?_, ?_, ?_⟩
  · exact (Below.heap_alloc _ _ _ (by omega)).trans ((Below.heap_alloc _ _ _ (by omega)).trans (heap_alloc_new w _))
  · refine (Below.heap_alloc _ _ _ (by omega)).trans ?_
    rw [← e1]; exact heap_alloc_new _ _
  · rw [← e2]; exact heap_alloc_new _ _
  · exact (((Below.refl _ _).alloc (Nat.le_refl _) _).alloc (by omega) _).alloc (by omega) _
theorem box_new (w : World) (c : Array Value) (t : TypeId) : ∃ W, Hid (W = w.alloc (.cells c t)) ∧ Hid (Below w.heap.size w W) ∧ Hid (W.heap[w.heap.size]? = some (.cells c t (0, 0))) ∧ w.heap.size + 1 ≤ W.heap.size := ⟨_, rfl, (Below.refl _ _).alloc (Nat.le_refl _) _, heap_alloc_new w _, by simp⟩
theorem lt_up {S : Nat → Prop} {w : World} (h : ∀ b, S b → b < w.heap.size) : ∀ u, Below w.heap.size w u → ∀ b, S b → b < u.heap.size := fun _ hu b hb => Nat.lt_of_lt_of_le (h b hb) hu.size
theorem AtL.ups {α : Type} [Lay α] {S : Nat → Prop} {w : World} {l : List α} {v : Value} (h : AtL S w l v) (hS : ∀ b, S b → b < w.heap.size) : ∀ u, Below w.heap.size w u → AtL S u l v := fun _ hu => h.same (Same.of_below hu hS)
end Go.Proofs.YtobchllaopdchacGreat

namespace Go.Proofs.YtobchllaopdchacGreat
open Go.RowKit
abbrev DRecPhase := ByteArray × Int × ByteArray × ByteArray × Int × Int × ByteArray × ByteArray
theorem width_DRecPhase : Lay.width DRecPhase = 8 := rfl
theorem at_DRecPhase {S : Nat → Prop} {w : World} {a : DRecPhase} {c : Nat → Value} : Lay.At S w a c ↔ (c 0 = .string a.1 ∧ a.1.size ≤ maxLen) ∧ (c 1 = .int .i64 a.2.1 ∧ -9223372036854775808 ≤ a.2.1 ∧ a.2.1 ≤ 9223372036854775807) ∧ (c 2 = .string a.2.2.1 ∧ a.2.2.1.size ≤ maxLen) ∧ (c 3 = .string a.2.2.2.1 ∧ a.2.2.2.1.size ≤ maxLen) ∧ (c 4 = .int .i64 a.2.2.2.2.1 ∧ -9223372036854775808 ≤ a.2.2.2.2.1 ∧ a.2.2.2.2.1 ≤ 9223372036854775807) ∧ (c 5 = .int .i64 a.2.2.2.2.2.1 ∧ -9223372036854775808 ≤ a.2.2.2.2.2.1 ∧ a.2.2.2.2.2.1 ≤ 9223372036854775807) ∧ (c 6 = .string a.2.2.2.2.2.2.1 ∧ a.2.2.2.2.2.2.1.size ≤ maxLen) ∧ (c 7 = .string a.2.2.2.2.2.2.2 ∧ a.2.2.2.2.2.2.2.size ≤ maxLen) := Iff.rfl
theorem tot_DRecPhase {a : DRecPhase} : Lay.tot a = a.1.size + (0 + (a.2.2.1.size + (a.2.2.2.1.size + (0 + (0 + (a.2.2.2.2.2.2.1.size + (a.2.2.2.2.2.2.2.size))))))) := rfl
end Go.Proofs.YtobchllaopdchacGreat

namespace Go.Proofs.YtobchllaopdchacGreat
open Go.RowKit
abbrev DRunSlot := ByteArray × ByteArray
abbrev DRunBatch := ByteArray × List DRecPhase × List DRunSlot × ByteArray × Int × Int
theorem width_DRunSlot : Lay.width DRunSlot = 2 := rfl
theorem at_DRunSlot {S : Nat → Prop} {w : World} {a : DRunSlot} {c : Nat → Value} : Lay.At S w a c ↔ (c 0 = .string a.1 ∧ a.1.size ≤ maxLen) ∧ (c 1 = .string a.2 ∧ a.2.size ≤ maxLen) := Iff.rfl
theorem tot_DRunSlot {a : DRunSlot} : Lay.tot a = a.1.size + (a.2.size) := rfl
theorem width_DRunBatch : Lay.width DRunBatch = 6 := rfl
theorem at_DRunBatch {S : Nat → Prop} {w : World} {a : DRunBatch} {c : Nat → Value} : Lay.At S w a c ↔ (c 0 = .string a.1 ∧ a.1.size ≤ maxLen) ∧ AtL S w a.2.1 (c 1) ∧ AtL S w a.2.2.1 (c 2) ∧ (c 3 = .string a.2.2.2.1 ∧ a.2.2.2.1.size ≤ maxLen) ∧ (c 4 = .int .i64 a.2.2.2.2.1 ∧ -9223372036854775808 ≤ a.2.2.2.2.1 ∧ a.2.2.2.2.1 ≤ 9223372036854775807) ∧ (c 5 = .int .i64 a.2.2.2.2.2 ∧ -9223372036854775808 ≤ a.2.2.2.2.2 ∧ a.2.2.2.2.2 ≤ 9223372036854775807) := Iff.rfl
theorem tot_DRunBatch {a : DRunBatch} : Lay.tot a = a.1.size + (totL a.2.1 + (totL a.2.2.1 + (a.2.2.2.1.size + (0 + (0))))) := rfl
end Go.Proofs.YtobchllaopdchacGreat

namespace Go.Proofs.YtobchllaopdchacGreat
open Go.RowKit
abbrev DShareBatch := ByteArray × List ByteArray × List ByteArray
abbrev DShareBook := List ByteArray × List DShareBatch
theorem width_DShareBatch : Lay.width DShareBatch = 3 := rfl
theorem at_DShareBatch {S : Nat → Prop} {w : World} {a : DShareBatch} {c : Nat → Value} : Lay.At S w a c ↔ (c 0 = .string a.1 ∧ a.1.size ≤ maxLen) ∧ AtL S w a.2.1 (c 1) ∧ AtL S w a.2.2 (c 2) := Iff.rfl
theorem tot_DShareBatch {a : DShareBatch} : Lay.tot a = a.1.size + (totL a.2.1 + (totL a.2.2)) := rfl
theorem width_DShareBook : Lay.width DShareBook = 2 := rfl
theorem at_DShareBook {S : Nat → Prop} {w : World} {a : DShareBook} {c : Nat → Value} : Lay.At S w a c ↔ AtL S w a.1 (c 0) ∧ AtL S w a.2 (c 1) := Iff.rfl
theorem tot_DShareBook {a : DShareBook} : Lay.tot a = totL a.1 + (totL a.2) := rfl
end Go.Proofs.YtobchllaopdchacGreat

namespace Go.Proofs.YtobchllaopdchacGreat
open Go.RowKit
abbrev DRunDone := ByteArray × Int × Int
theorem width_DRunDone : Lay.width DRunDone = 3 := rfl
theorem at_DRunDone {S : Nat → Prop} {w : World} {a : DRunDone} {c : Nat → Value} : Lay.At S w a c ↔ (c 0 = .string a.1 ∧ a.1.size ≤ maxLen) ∧ (c 1 = .int .i64 a.2.1 ∧ -9223372036854775808 ≤ a.2.1 ∧ a.2.1 ≤ 9223372036854775807) ∧ (c 2 = .int .i64 a.2.2 ∧ -9223372036854775808 ≤ a.2.2 ∧ a.2.2 ≤ 9223372036854775807) := Iff.rfl
theorem tot_DRunDone {a : DRunDone} : Lay.tot a = a.1.size + (0 + (0)) := rfl
abbrev DRunHouse := Int × Int × List ByteArray × List DShareBatch × List DRunBatch × List DRunDone
theorem width_DRunHouse : Lay.width DRunHouse = 6 := rfl
theorem at_DRunHouse {S : Nat → Prop} {w : World} {a : DRunHouse} {c : Nat → Value} : Lay.At S w a c ↔ (c 0 = .int .i64 a.1 ∧ -9223372036854775808 ≤ a.1 ∧ a.1 ≤ 9223372036854775807) ∧ (c 1 = .int .i64 a.2.1 ∧ -9223372036854775808 ≤ a.2.1 ∧ a.2.1 ≤ 9223372036854775807) ∧ AtL S w a.2.2.1 (c 2) ∧ AtL S w a.2.2.2.1 (c 3) ∧ AtL S w a.2.2.2.2.1 (c 4) ∧ AtL S w a.2.2.2.2.2 (c 5) := Iff.rfl
theorem tot_DRunHouse {a : DRunHouse} : Lay.tot a = 0 + (0 + (totL a.2.2.1 + (totL a.2.2.2.1 + (totL a.2.2.2.2.1 + (totL a.2.2.2.2.2))))) := rfl
end Go.Proofs.YtobchllaopdchacGreat

namespace Go.Proofs.YtobchllaopdchacGreat
open Go.ChangeShapes Go.WideShapes Go.ChangeAt Go.RowKit
theorem cStr : Tryz.prog.cellsOf 9 = 1 := by kernel_rfl
theorem cInt : Tryz.prog.cellsOf 3 = 1 := by kernel_rfl
theorem cLRecPhase : Tryz.prog.cellsOf 63 = 1 := by kernel_rfl
theorem cLRunSlot : Tryz.prog.cellsOf 64 = 1 := by kernel_rfl
theorem cLStr : Tryz.prog.cellsOf 22 = 1 := by kernel_rfl
theorem cLShareBatch : Tryz.prog.cellsOf 23 = 1 := by kernel_rfl
theorem cLRunBatch : Tryz.prog.cellsOf 26 = 1 := by kernel_rfl
theorem cLRunDone : Tryz.prog.cellsOf 27 = 1 := by kernel_rfl
theorem cDRecPhase : Tryz.prog.cellsOf 135 = 8 := by kernel_rfl
theorem cDRunSlot : Tryz.prog.cellsOf 138 = 2 := by kernel_rfl
theorem cDRunBatch : Tryz.prog.cellsOf 66 = 6 := by kernel_rfl
theorem cDShareBatch : Tryz.prog.cellsOf 94 = 3 := by kernel_rfl
theorem cDShareBook : Tryz.prog.cellsOf 25 = 2 := by kernel_rfl
theorem cDRunDone : Tryz.prog.cellsOf 69 = 3 := by kernel_rfl
theorem cDRunHouse : Tryz.prog.cellsOf 29 = 6 := by kernel_rfl
section
variable {H : Type} {enc : TypeId × Value → H} {w : World} {base : Nat} {spare : Nat → Bool} {held : Bool}
theorem of_list {t e : TypeId} {fuel : Nat} {v : Value} {x : DataW H × List MemPlace} {α : Type} [Lay α] [Inhabited α] (ht : Tryz.prog.underlying t = some (.slice e)) (hk : Tryz.prog.cellsOf e = Lay.width α) (hk1 : 1 ≤ Lay.width α)
    (hel : ∀ n cs y, cs.length = Lay.width α → DataW.trod enc Tryz.prog w base spare held n e cs = some y → ∃ (a : α) (c : Nat → Value), Lay.At (fun b => b < w.heap.size) w a c ∧ ∀ j, j < Lay.width α → cs[j]? = some (c j))
    (h : DataW.trod enc Tryz.prog w base spare held fuel t [v] = some x) : ∃ l : List α, AtL (fun b => b < w.heap.size) w l v := by
  rcases Deep.open_slice ht h with ⟨h1, _⟩ | ⟨a, len, cap, m, n, D, Pl, h1, hb, hl, hm, hmm, _, hx⟩
  · simp at h1; subst h1
    exact ⟨[], none, 0, rfl, ⟨Nat.zero_le _, Nat.le_refl _, fun _ => rfl⟩, fun i hi => by simp at hi⟩
  · simp at h1; subst h1
    have hle : len ≤ m := by rw [hmm]; split <;> omega
    obtain ⟨f, hf⟩ := Deep.choose_lt (α := α × (Nat → Value)) (n := len) (p := fun i z => Lay.At (fun b => b < w.heap.size) w z.1 z.2 ∧ ∀ j, j < Lay.width α → w.cell? ((a.add (i * Lay.width α)).add j) = some (z.2 j)) (fun i hi => by
      obtain ⟨cs', h2, h3⟩ := hx i (by omega)
      rw [hk] at h2
      obtain ⟨_, h4, h5⟩ := World.cells?_some h2
      obtain ⟨a', c', hq, h6⟩ := hel n cs' _ h4 h3
      exact ⟨(a', c'), hq, fun j hj => (h5 j hj).trans (h6 j hj)⟩)
    refine ⟨List.ofFn (fun i : Fin len => (f i).1), some a, cap, by simp, ⟨by simp; omega, by rw [List.length_ofFn]; omega, fun h => nomatch h⟩, fun i hi => ?_⟩
    have hil : i < len := by simpa using hi
    have h0 := (hf 0 (by omega)).2 0 hk1
    have hsp : a.spot = none := by
      have h7 := World.cell?_spot h0
      simpa [Addr.add] using h7
    obtain ⟨b, off, sp⟩ := a
    simp only at hsp
    subst hsp
    refine ⟨b, off, rfl, ?_, (f i).2, fun j hj => ?_, ?_⟩
    · exact World.block_lt_of_cell? w _ (by simpa [add_plain] using h0)
    · have h8 := (hf i hil).2 j hj
      rw [add_plain, add_plain] at h8
      exact h8
    · rw [List.getElem_ofFn]
      exact (hf i hil).1
theorem ofStr {n : Nat} {cs : List Value} {y : DataW H × List MemPlace} (h : DataW.trod enc Tryz.prog w base spare held n 9 cs = some y) : ∃ a : ByteArray, cs = [.string a] ∧ a.size ≤ maxLen := by
  obtain ⟨s, h1, _, h2⟩ := DataW.trod_string Tryz.underlying9 h
  exact ⟨s, h1, h2⟩
theorem ofInt {n : Nat} {cs : List Value} {y : DataW H × List MemPlace} (h : DataW.trod enc Tryz.prog w base spare held n 3 cs = some y) : ∃ a : Int, cs = [.int .i64 a] ∧ -9223372036854775808 ≤ a ∧ a ≤ 9223372036854775807 := by
  obtain ⟨s, h1, _, h2⟩ := DataW.trod_int Tryz.underlying3 h
  refine ⟨s, h1, ?_⟩
  have e1 : IntKind.i64.min = -9223372036854775808 := by decide
  have e2 : IntKind.i64.max = 9223372036854775807 := by decide
  simp [Lit.wf] at h2
  omega
theorem ofDRecPhase {n : Nat} {cs : List Value} {y : DataW H × List MemPlace} (hl : cs.length = 8) (hy : DataW.trod enc Tryz.prog w base spare held n 135 cs = some y) : ∃ (a : DRecPhase) (c : Nat → Value), Lay.At (fun b => b < w.heap.size) w a c ∧ ∀ j, j < Lay.width DRecPhase → cs[j]? = some (c j) := by
  match cs, hl with
  | [x0, x1, x2, x3, x4, x5, x6, x7], _ =>
    obtain ⟨xs, m, _, _, _, hlen, hf⟩ := DataW.trod_struct Tryz.underlying135 hy
    have g0 : DataW.trod enc Tryz.prog w base spare held m 9 [x0] = xs[0]? := by simpa [cStr, cInt] using hf 0 _ rfl
    have g1 : DataW.trod enc Tryz.prog w base spare held m 3 [x1] = xs[1]? := by simpa [cStr, cInt] using hf 1 _ rfl
    have g2 : DataW.trod enc Tryz.prog w base spare held m 9 [x2] = xs[2]? := by simpa [cStr, cInt] using hf 2 _ rfl
    have g3 : DataW.trod enc Tryz.prog w base spare held m 9 [x3] = xs[3]? := by simpa [cStr, cInt] using hf 3 _ rfl
    have g4 : DataW.trod enc Tryz.prog w base spare held m 3 [x4] = xs[4]? := by simpa [cStr, cInt] using hf 4 _ rfl
    have g5 : DataW.trod enc Tryz.prog w base spare held m 3 [x5] = xs[5]? := by simpa [cStr, cInt] using hf 5 _ rfl
    have g6 : DataW.trod enc Tryz.prog w base spare held m 9 [x6] = xs[6]? := by simpa [cStr, cInt] using hf 6 _ rfl
    have g7 : DataW.trod enc Tryz.prog w base spare held m 9 [x7] = xs[7]? := by simpa [cStr, cInt] using hf 7 _ rfl
    rw [List.getElem?_eq_getElem (by rw [hlen]; decide)] at g0 g1 g2 g3 g4 g5 g6 g7
    obtain ⟨a0, e0, k0⟩ := ofStr g0
    obtain ⟨a1, e1, k1, m1⟩ := ofInt g1
    obtain ⟨a2, e2, k2⟩ := ofStr g2
    obtain ⟨a3, e3, k3⟩ := ofStr g3
    obtain ⟨a4, e4, k4, m4⟩ := ofInt g4
    obtain ⟨a5, e5, k5, m5⟩ := ofInt g5
    obtain ⟨a6, e6, k6⟩ := ofStr g6
    obtain ⟨a7, e7, k7⟩ := ofStr g7
    simp at e0 e1 e2 e3 e4 e5 e6 e7
    subst e0 e1 e2 e3 e4 e5 e6 e7
    exact ⟨(a0, a1, a2, a3, a4, a5, a6, a7), Go.Proofs.YtobchllaopdchacGreat.cs [.string a0, .int .i64 a1, .string a2, .string a3, .int .i64 a4, .int .i64 a5, .string a6, .string a7], at_DRecPhase.2 ⟨⟨rfl, k0⟩, ⟨rfl, k1, m1⟩, ⟨rfl, k2⟩, ⟨rfl, k3⟩, ⟨rfl, k4, m4⟩, ⟨rfl, k5, m5⟩, ⟨rfl, k6⟩, ⟨rfl, k7⟩⟩, fun j hj => by
      rw [width_DRecPhase] at hj
      rcases (show j = 0 ∨ j = 1 ∨ j = 2 ∨ j = 3 ∨ j = 4 ∨ j = 5 ∨ j = 6 ∨ j = 7 by omega) with rfl | rfl | rfl | rfl | rfl | rfl | rfl | rfl <;> rfl⟩
theorem ofDRunSlot {n : Nat} {cs : List Value} {y : DataW H × List MemPlace} (hl : cs.length = 2) (hy : DataW.trod enc Tryz.prog w base spare held n 138 cs = some y) : ∃ (a : DRunSlot) (c : Nat → Value), Lay.At (fun b => b < w.heap.size) w a c ∧ ∀ j, j < Lay.width DRunSlot → cs[j]? = some (c j) := by
  match cs, hl with
  | [x0, x1], _ =>
    obtain ⟨xs, m, _, _, _, hlen, hf⟩ := DataW.trod_struct Tryz.underlying138 hy
    have g0 : DataW.trod enc Tryz.prog w base spare held m 9 [x0] = xs[0]? := by simpa [cStr] using hf 0 _ rfl
    have g1 : DataW.trod enc Tryz.prog w base spare held m 9 [x1] = xs[1]? := by simpa [cStr] using hf 1 _ rfl
    rw [List.getElem?_eq_getElem (by rw [hlen]; decide)] at g0 g1
    obtain ⟨a0, e0, k0⟩ := ofStr g0
    obtain ⟨a1, e1, k1⟩ := ofStr g1
    simp at e0 e1
    subst e0 e1
    exact ⟨(a0, a1), Go.Proofs.YtobchllaopdchacGreat.cs [.string a0, .string a1], at_DRunSlot.2 ⟨⟨rfl, k0⟩, ⟨rfl, k1⟩⟩, fun j hj => by
      rw [width_DRunSlot] at hj
      rcases (show j = 0 ∨ j = 1 by omega) with rfl | rfl <;> rfl⟩
theorem ofLRecPhase {fuel : Nat} {v : Value} {x : DataW H × List MemPlace} (h : DataW.trod enc Tryz.prog w base spare held fuel 63 [v] = some x) : ∃ l : List DRecPhase, AtL (fun b => b < w.heap.size) w l v :=
  of_list (α := DRecPhase) Tryz.underlying63 cDRecPhase (by rw [width_DRecPhase]; omega) (fun n cs y hl hy => ofDRecPhase (by simpa [width_DRecPhase] using hl) hy) h
theorem ofLRunSlot {fuel : Nat} {v : Value} {x : DataW H × List MemPlace} (h : DataW.trod enc Tryz.prog w base spare held fuel 64 [v] = some x) : ∃ l : List DRunSlot, AtL (fun b => b < w.heap.size) w l v :=
  of_list (α := DRunSlot) Tryz.underlying64 cDRunSlot (by rw [width_DRunSlot]; omega) (fun n cs y hl hy => ofDRunSlot (by simpa [width_DRunSlot] using hl) hy) h
theorem ofDRunBatch {n : Nat} {cs : List Value} {y : DataW H × List MemPlace} (hl : cs.length = 6) (hy : DataW.trod enc Tryz.prog w base spare held n 66 cs = some y) : ∃ (a : DRunBatch) (c : Nat → Value), Lay.At (fun b => b < w.heap.size) w a c ∧ ∀ j, j < Lay.width DRunBatch → cs[j]? = some (c j) := by
  match cs, hl with
  | [x0, x1, x2, x3, x4, x5], _ =>
    obtain ⟨xs, m, _, _, _, hlen, hf⟩ := DataW.trod_struct Tryz.underlying66 hy
    have g0 : DataW.trod enc Tryz.prog w base spare held m 9 [x0] = xs[0]? := by simpa [cStr, cInt, cLRecPhase, cLRunSlot] using hf 0 _ rfl
    have g1 : DataW.trod enc Tryz.prog w base spare held m 63 [x1] = xs[1]? := by simpa [cStr, cInt, cLRecPhase, cLRunSlot] using hf 1 _ rfl
    have g2 : DataW.trod enc Tryz.prog w base spare held m 64 [x2] = xs[2]? := by simpa [cStr, cInt, cLRecPhase, cLRunSlot] using hf 2 _ rfl
    have g3 : DataW.trod enc Tryz.prog w base spare held m 9 [x3] = xs[3]? := by simpa [cStr, cInt, cLRecPhase, cLRunSlot] using hf 3 _ rfl
    have g4 : DataW.trod enc Tryz.prog w base spare held m 3 [x4] = xs[4]? := by simpa [cStr, cInt, cLRecPhase, cLRunSlot] using hf 4 _ rfl
    have g5 : DataW.trod enc Tryz.prog w base spare held m 3 [x5] = xs[5]? := by simpa [cStr, cInt, cLRecPhase, cLRunSlot] using hf 5 _ rfl
    rw [List.getElem?_eq_getElem (by rw [hlen]; decide)] at g0 g1 g2 g3 g4 g5
    obtain ⟨a0, e0, k0⟩ := ofStr g0
    obtain ⟨a1, k1⟩ := ofLRecPhase g1
    obtain ⟨a2, k2⟩ := ofLRunSlot g2
    obtain ⟨a3, e3, k3⟩ := ofStr g3
    obtain ⟨a4, e4, k4, m4⟩ := ofInt g4
    obtain ⟨a5, e5, k5, m5⟩ := ofInt g5
    simp at e0 e3 e4 e5
    subst e0 e3 e4 e5
    exact ⟨(a0, a1, a2, a3, a4, a5), Go.Proofs.YtobchllaopdchacGreat.cs [.string a0, x1, x2, .string a3, .int .i64 a4, .int .i64 a5], at_DRunBatch.2 ⟨⟨rfl, k0⟩, k1, k2, ⟨rfl, k3⟩, ⟨rfl, k4, m4⟩, ⟨rfl, k5, m5⟩⟩, fun j hj => by
      rw [width_DRunBatch] at hj
      rcases (show j = 0 ∨ j = 1 ∨ j = 2 ∨ j = 3 ∨ j = 4 ∨ j = 5 by omega) with rfl | rfl | rfl | rfl | rfl | rfl <;> rfl⟩
theorem ofLStr {fuel : Nat} {v : Value} {x : DataW H × List MemPlace} (h : DataW.trod enc Tryz.prog w base spare held fuel 22 [v] = some x) : ∃ l : List ByteArray, AtL (fun b => b < w.heap.size) w l v :=
  of_list (α := ByteArray) Tryz.underlying22 cStr (Nat.le_refl _) (fun n cs y hl hy => by
    obtain ⟨a, rfl, ha⟩ := ofStr hy
    exact ⟨a, Go.Proofs.YtobchllaopdchacGreat.cs [.string a], ⟨rfl, ha⟩, fun j hj => by
      have e : j = 0 := by simpa [width_str] using hj
      subst e; rfl⟩) h
theorem ofDShareBatch {n : Nat} {cs : List Value} {y : DataW H × List MemPlace} (hl : cs.length = 3) (hy : DataW.trod enc Tryz.prog w base spare held n 94 cs = some y) : ∃ (a : DShareBatch) (c : Nat → Value), Lay.At (fun b => b < w.heap.size) w a c ∧ ∀ j, j < Lay.width DShareBatch → cs[j]? = some (c j) := by
  match cs, hl with
  | [x0, x1, x2], _ =>
    obtain ⟨xs, m, _, _, _, hlen, hf⟩ := DataW.trod_struct Tryz.underlying94 hy
    have g0 : DataW.trod enc Tryz.prog w base spare held m 9 [x0] = xs[0]? := by simpa [cStr, cLStr] using hf 0 _ rfl
    have g1 : DataW.trod enc Tryz.prog w base spare held m 22 [x1] = xs[1]? := by simpa [cStr, cLStr] using hf 1 _ rfl
    have g2 : DataW.trod enc Tryz.prog w base spare held m 22 [x2] = xs[2]? := by simpa [cStr, cLStr] using hf 2 _ rfl
    rw [List.getElem?_eq_getElem (by rw [hlen]; decide)] at g0 g1 g2
    obtain ⟨a0, e0, k0⟩ := ofStr g0
    obtain ⟨a1, k1⟩ := ofLStr g1
    obtain ⟨a2, k2⟩ := ofLStr g2
    simp at e0
    subst e0
    exact ⟨(a0, a1, a2), Go.Proofs.YtobchllaopdchacGreat.cs [.string a0, x1, x2], at_DShareBatch.2 ⟨⟨rfl, k0⟩, k1, k2⟩, fun j hj => by
      rw [width_DShareBatch] at hj
      rcases (show j = 0 ∨ j = 1 ∨ j = 2 by omega) with rfl | rfl | rfl <;> rfl⟩
theorem ofLShareBatch {fuel : Nat} {v : Value} {x : DataW H × List MemPlace} (h : DataW.trod enc Tryz.prog w base spare held fuel 23 [v] = some x) : ∃ l : List DShareBatch, AtL (fun b => b < w.heap.size) w l v :=
  of_list (α := DShareBatch) Tryz.underlying23 cDShareBatch (by rw [width_DShareBatch]; omega) (fun n cs y hl hy => ofDShareBatch (by simpa [width_DShareBatch] using hl) hy) h
theorem ofDShareBook {n : Nat} {cs : List Value} {y : DataW H × List MemPlace} (hl : cs.length = 2) (hy : DataW.trod enc Tryz.prog w base spare held n 25 cs = some y) : ∃ (a : DShareBook) (c : Nat → Value), Lay.At (fun b => b < w.heap.size) w a c ∧ ∀ j, j < Lay.width DShareBook → cs[j]? = some (c j) := by
  match cs, hl with
  | [x0, x1], _ =>
    obtain ⟨xs, m, _, _, _, hlen, hf⟩ := DataW.trod_struct Tryz.underlying25 hy
    have g0 : DataW.trod enc Tryz.prog w base spare held m 22 [x0] = xs[0]? := by simpa [cStr, cLStr, cLShareBatch] using hf 0 _ rfl
    have g1 : DataW.trod enc Tryz.prog w base spare held m 23 [x1] = xs[1]? := by simpa [cStr, cLStr, cLShareBatch] using hf 1 _ rfl
    rw [List.getElem?_eq_getElem (by rw [hlen]; decide)] at g0 g1
    obtain ⟨a0, k0⟩ := ofLStr g0
    obtain ⟨a1, k1⟩ := ofLShareBatch g1
    exact ⟨(a0, a1), Go.Proofs.YtobchllaopdchacGreat.cs [x0, x1], at_DShareBook.2 ⟨k0, k1⟩, fun j hj => by
      rw [width_DShareBook] at hj
      rcases (show j = 0 ∨ j = 1 by omega) with rfl | rfl <;> rfl⟩
theorem ofDRunDone {n : Nat} {cs : List Value} {y : DataW H × List MemPlace} (hl : cs.length = 3) (hy : DataW.trod enc Tryz.prog w base spare held n 69 cs = some y) : ∃ (a : DRunDone) (c : Nat → Value), Lay.At (fun b => b < w.heap.size) w a c ∧ ∀ j, j < Lay.width DRunDone → cs[j]? = some (c j) := by
  match cs, hl with
  | [x0, x1, x2], _ =>
    obtain ⟨xs, m, _, _, _, hlen, hf⟩ := DataW.trod_struct Tryz.underlying69 hy
    have g0 : DataW.trod enc Tryz.prog w base spare held m 9 [x0] = xs[0]? := by simpa [cStr, cInt] using hf 0 _ rfl
    have g1 : DataW.trod enc Tryz.prog w base spare held m 3 [x1] = xs[1]? := by simpa [cStr, cInt] using hf 1 _ rfl
    have g2 : DataW.trod enc Tryz.prog w base spare held m 3 [x2] = xs[2]? := by simpa [cStr, cInt] using hf 2 _ rfl
    rw [List.getElem?_eq_getElem (by rw [hlen]; decide)] at g0 g1 g2
    obtain ⟨a0, e0, k0⟩ := ofStr g0
    obtain ⟨a1, e1, k1, m1⟩ := ofInt g1
    obtain ⟨a2, e2, k2, m2⟩ := ofInt g2
    simp at e0 e1 e2
    subst e0 e1 e2
    exact ⟨(a0, a1, a2), Go.Proofs.YtobchllaopdchacGreat.cs [.string a0, .int .i64 a1, .int .i64 a2], at_DRunDone.2 ⟨⟨rfl, k0⟩, ⟨rfl, k1, m1⟩, ⟨rfl, k2, m2⟩⟩, fun j hj => by
      rw [width_DRunDone] at hj
      rcases (show j = 0 ∨ j = 1 ∨ j = 2 by omega) with rfl | rfl | rfl <;> rfl⟩
theorem ofLRunBatch {fuel : Nat} {v : Value} {x : DataW H × List MemPlace} (h : DataW.trod enc Tryz.prog w base spare held fuel 26 [v] = some x) : ∃ l : List DRunBatch, AtL (fun b => b < w.heap.size) w l v :=
  of_list (α := DRunBatch) Tryz.underlying26 cDRunBatch (by rw [width_DRunBatch]; omega) (fun n cs y hl hy => ofDRunBatch (by simpa [width_DRunBatch] using hl) hy) h
theorem ofLRunDone {fuel : Nat} {v : Value} {x : DataW H × List MemPlace} (h : DataW.trod enc Tryz.prog w base spare held fuel 27 [v] = some x) : ∃ l : List DRunDone, AtL (fun b => b < w.heap.size) w l v :=
  of_list (α := DRunDone) Tryz.underlying27 cDRunDone (by rw [width_DRunDone]; omega) (fun n cs y hl hy => ofDRunDone (by simpa [width_DRunDone] using hl) hy) h
theorem ofDRunHouse {n : Nat} {cs : List Value} {y : DataW H × List MemPlace} (hl : cs.length = 6) (hy : DataW.trod enc Tryz.prog w base spare held n 29 cs = some y) : ∃ (a : DRunHouse) (c : Nat → Value), Lay.At (fun b => b < w.heap.size) w a c ∧ ∀ j, j < Lay.width DRunHouse → cs[j]? = some (c j) := by
  match cs, hl with
  | [x0, x1, x2, x3, x4, x5], _ =>
    obtain ⟨xs, m, _, _, _, hlen, hf⟩ := DataW.trod_struct Tryz.underlying29 hy
    have g0 : DataW.trod enc Tryz.prog w base spare held m 3 [x0] = xs[0]? := by simpa [cStr, cInt, cLStr, cLRunBatch, cLRunDone, cLShareBatch, cDShareBook] using hf 0 _ rfl
    have g1 : DataW.trod enc Tryz.prog w base spare held m 3 [x1] = xs[1]? := by simpa [cStr, cInt, cLStr, cLRunBatch, cLRunDone, cLShareBatch, cDShareBook] using hf 1 _ rfl
    have g2 : DataW.trod enc Tryz.prog w base spare held m 25 [x2, x3] = xs[2]? := by simpa [cStr, cInt, cLStr, cLRunBatch, cLRunDone, cLShareBatch, cDShareBook] using hf 2 _ rfl
    have g3 : DataW.trod enc Tryz.prog w base spare held m 26 [x4] = xs[3]? := by simpa [cStr, cInt, cLStr, cLRunBatch, cLRunDone, cLShareBatch, cDShareBook] using hf 3 _ rfl
    have g4 : DataW.trod enc Tryz.prog w base spare held m 27 [x5] = xs[4]? := by simpa [cStr, cInt, cLStr, cLRunBatch, cLRunDone, cLShareBatch, cDShareBook] using hf 4 _ rfl
    rw [List.getElem?_eq_getElem (by rw [hlen]; decide)] at g0 g1 g2 g3 g4
    obtain ⟨a0, e0, k0, m0⟩ := ofInt g0
    obtain ⟨a1, e1, k1, m1⟩ := ofInt g1
    obtain ⟨⟨a2, a3⟩, c23, k23, hc⟩ := ofDShareBook rfl g2
    obtain ⟨k2, k3⟩ := at_DShareBook.1 k23
    obtain rfl : x2 = c23 0 := Option.some.inj (hc 0 (by decide))
    obtain rfl : x3 = c23 1 := Option.some.inj (hc 1 (by decide))
    obtain ⟨a4, k4⟩ := ofLRunBatch g3
    obtain ⟨a5, k5⟩ := ofLRunDone g4
    simp at e0 e1
    subst e0 e1
    exact ⟨(a0, a1, a2, a3, a4, a5), Go.Proofs.YtobchllaopdchacGreat.cs [.int .i64 a0, .int .i64 a1, c23 0, c23 1, x4, x5], at_DRunHouse.2 ⟨⟨rfl, k0, m0⟩, ⟨rfl, k1, m1⟩, k2, k3, k4, k5⟩, fun j hj => by
      rw [width_DRunHouse] at hj
      rcases (show j = 0 ∨ j = 1 ∨ j = 2 ∨ j = 3 ∨ j = 4 ∨ j = 5 by omega) with rfl | rfl | rfl | rfl | rfl | rfl <;> rfl⟩
set_option maxRecDepth 100000 in
theorem ofRunHouse {r : Reach} {b0 : Nat} {v : Value} {d : DataW H} {p : List MemPlace} (hv : Value.okWide Tryz.prog w r b0 29 v) (h : DataW.Trod enc Tryz.prog w base spare held 29 v d p) :
    ∃ (a : DRunHouse) (c : Nat → Value), v = .agg #[c 0, c 1, c 2, c 3, c 4, c 5] ∧ Lay.At (fun b => b < w.heap.size) w a c := by
  obtain ⟨cs, rfl, hsz⟩ := okWide_struct Tryz.underlying29 hv
  obtain ⟨m, hm⟩ := h
  have hl : cs.toList.length = 6 := by rw [Array.length_toList]; exact hsz.trans cDRunHouse
  obtain ⟨a, c, hat, hc⟩ := ofDRunHouse hl hm
  refine ⟨a, c, ?_, hat⟩
  congr 1
  apply Array.ext
  · rw [hsz]; exact cDRunHouse
  · intro j h1 h2
    have h3 : j < 6 := by have := hsz.trans cDRunHouse; omega
    have := hc j (by rw [width_DRunHouse]; exact h3)
    rw [Array.getElem?_toList, Array.getElem?_eq_getElem h1] at this
    rw [Option.some.inj this]
    rcases (show j = 0 ∨ j = 1 ∨ j = 2 ∨ j = 3 ∨ j = 4 ∨ j = 5 by omega) with rfl | rfl | rfl | rfl | rfl | rfl <;> rfl
end
end Go.Proofs.YtobchllaopdchacGreat

namespace Go.Proofs.YtobchllaopdchacGreat
open Go.RowKit
def okn (c : Int) : Bool := decide ((97 ≤ c ∧ c ≤ 122) ∨ (48 ≤ c ∧ c ≤ 57) ∨ c = 45)
def nameB (s : ByteArray) : Bool := decide (1 ≤ s.size ∧ s.size ≤ 8) && s.data.toList.all fun c => okn c.toNat
theorem sz_list (s : ByteArray) : s.size = s.data.toList.length := by simp
theorem gt_list (s : ByteArray) (k : Nat) (h : k < s.size) : s.data.toList[k]? = some s[k] := by
  rw [List.getElem?_eq_getElem (by rw [← sz_list]; exact h)]; rfl
theorem name_short {s : ByteArray} (h : ¬ (1 ≤ s.size ∧ s.size ≤ 8)) : nameB s = false := by simp [nameB]; omega
theorem name_bad {s : ByteArray} {k : Nat} (h : k < s.size) (hc : okn s[k].toNat = false) : nameB s = false := by
  have : (s.data.toList.all fun c => okn c.toNat) = false := by
    rw [List.all_eq_false]
    exact ⟨s[k], List.mem_of_getElem? (gt_list s k h), by simp [hc]⟩
  simp only [nameB, this, Bool.and_false]
theorem name_all {s : ByteArray} (h : 1 ≤ s.size ∧ s.size ≤ 8) (ha : ∀ j (hj : j < s.size), okn s[j].toNat = true) : nameB s = true := by
  have : (s.data.toList.all fun c => okn c.toNat) = true := by
    rw [List.all_eq_true]
    intro c hc
    obtain ⟨j, hj, e⟩ := List.mem_iff_getElem.1 hc
    have hj' : j < s.size := by rw [sz_list]; exact hj
    have := ha j hj'
    rw [← e]; exact this
  simp only [nameB, this, Bool.and_true]
  exact decide_eq_true h
def inB (n lo hi : Int) : Bool := decide (lo ≤ n ∧ n ≤ hi)
def eqB (a b : ByteArray) : Bool := a.toList == b.toList
def ltB (a b : ByteArray) : Bool := Op.bytesLess a.toList b.toList
theorem eqB_refl (a : ByteArray) : eqB a a = true := by simp [eqB]
section
variable {α : Type} {p : α → Bool} {l : List α}
theorem any_yes {k : Nat} (hk : k < l.length) (h : p l[k] = true) : l.any p = true := List.any_eq_true.2 ⟨_, List.getElem_mem hk, h⟩
theorem any_no (h : ∀ j (hj : j < l.length), p l[j] = false) : l.any p = false := by
  rw [List.any_eq_false]
  intro x hx
  obtain ⟨j, hj, rfl⟩ := List.mem_iff_getElem.1 hx
  simp [h j hj]
def idxI (l : List α) (p : α → Bool) : Int := match l.findIdx? p with | some i => i | none => -1
theorem idx_yes {k : Nat} (hk : k < l.length) (h : p l[k] = true) (hno : ∀ j (hj : j < l.length), j < k → p l[j] = false) : idxI l p = k := by
  have : l.findIdx? p = some k := by
    rw [List.findIdx?_eq_some_iff_getElem]
    exact ⟨hk, h, fun j hj => by simp [hno j (by omega) hj]⟩
  simp only [idxI, this]
theorem idx_no (h : ∀ j (hj : j < l.length), p l[j] = false) : idxI l p = -1 := by
  have : l.findIdx? p = none := by
    rw [List.findIdx?_eq_none_iff]
    intro x hx
    obtain ⟨j, hj, rfl⟩ := List.mem_iff_getElem.1 hx
    exact h j hj
  simp only [idxI, this]
end
def hasB (l : List ByteArray) (x : ByteArray) : Bool := l.any fun f => eqB f x
section
variable {α : Type}
def prevO (l : List α) (i : Nat) : Option α := if i = 0 then none else l[i - 1]?
theorem prev_zero (l : List α) : prevO l 0 = none := rfl
theorem prev_succ (l : List α) (m : Nat) (h : m < l.length) : prevO l (m + 1) = some l[m] := by
  simp [prevO, List.getElem?_eq_getElem h]
noncomputable def okB (lim : Nat) (T : Option α → α → Bool) (l : List α) : Bool := @decide (l.length ≤ lim ∧ ∀ i (h : i < l.length), T (prevO l i) l[i] = true) (Classical.propDecidable _)
theorem ok_yes {lim : Nat} {T : Option α → α → Bool} {l : List α} (h0 : l.length ≤ lim) (h : ∀ i (h : i < l.length), T (prevO l i) l[i] = true) : okB lim T l = true := by
  unfold okB; exact @decide_eq_true _ (Classical.propDecidable _) ⟨h0, h⟩
theorem ok_long {lim : Nat} {T : Option α → α → Bool} {l : List α} (h0 : ¬ l.length ≤ lim) : okB lim T l = false := by
  unfold okB; exact @decide_eq_false _ (Classical.propDecidable _) (fun h => h0 h.1)
theorem ok_no {lim : Nat} {T : Option α → α → Bool} {l : List α} {k : Nat} (hk : k < l.length) (h : T (prevO l k) l[k] = false) : okB lim T l = false := by
  unfold okB; exact @decide_eq_false _ (Classical.propDecidable _) (fun h' => by have := h'.2 k hk; rw [h] at this; cases this)
theorem ok_iff {lim : Nat} {T : Option α → α → Bool} {l : List α} : okB lim T l = true ↔ l.length ≤ lim ∧ ∀ i (h : i < l.length), T (prevO l i) l[i] = true := by
  unfold okB; exact @decide_eq_true_iff _ (Classical.propDecidable _)
end
section
variable {α : Type}
def asO (R : α → α → Bool) : Option α → α → Bool
  | none, _ => true
  | some p, x => R p x
def tst (P : α → Bool) (R : α → α → Bool) (o : Option α) (x : α) : Bool := P x && asO R o x
theorem as_zero {R : α → α → Bool} {l : List α} (j : Nat) (hj : j < l.length) (h : j = 0) : asO R (prevO l j) l[j] = true := by
  subst h; rw [prev_zero]; rfl
noncomputable def ascB (R : α → α → Bool) (l : List α) : Bool := okB l.length (asO R) l
theorem tst_asc {lim : Nat} {P : α → Bool} {R : α → α → Bool} {l : List α} (h0 : l.length ≤ lim) (hP : ∀ j (hj : j < l.length), P l[j] = true) : okB lim (tst P R) l = ascB R l := by
  rw [Bool.eq_iff_iff, ascB, ok_iff, ok_iff]
  constructor
  · rintro ⟨_, h⟩
    exact ⟨Nat.le_refl _, fun i hi => by have := h i hi; rw [tst, hP i hi, Bool.true_and] at this; exact this⟩
  · rintro ⟨_, h⟩
    exact ⟨h0, fun i hi => by rw [tst, hP i hi, h i hi]; rfl⟩
theorem tst_no {lim : Nat} {P : α → Bool} {R : α → α → Bool} {l : List α} {k : Nat} (hk : k < l.length) (h : P l[k] = false) : okB lim (tst P R) l = false :=
  ok_no hk (by rw [tst, h]; rfl)
end
theorem box_at {w : World} (o : Array Value) (t : TypeId) {wr : World} (hb : Below (w.heap.size + 1) (w.alloc (.cells o t)) wr) (j : Nat) (v : Value) (h : o[j]? = some v) : wr.cell? ⟨w.heap.size, j, none⟩ = some v := by
  refine (hb.cell (p := ⟨w.heap.size, j, none⟩) (by show w.heap.size < _; omega)).trans ?_
  simp only [World.cell?, heap_alloc_new, h]; rfl
theorem below_end {w wr : World} {o : Obj} (hb : Below (w.heap.size + 1) (w.alloc o) wr) : Below w.heap.size w wr :=
  ((Below.refl _ _).alloc (Nat.le_refl _) o).trans (hb.mono (by omega))
theorem below_of {w wr wr' : World} {o : Obj} (hb : Below (w.heap.size + 1) (w.alloc o) wr) (h : Below wr.heap.size wr wr') : Below (w.heap.size + 1) (w.alloc o) wr' :=
  hb.trans (h.mono (by have := hb.size; simp at this; exact this))
end Go.Proofs.YtobchllaopdchacGreat
