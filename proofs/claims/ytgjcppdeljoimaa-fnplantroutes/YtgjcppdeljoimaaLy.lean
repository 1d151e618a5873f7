import Derived.Test.YtgjcppdeljoimaaChecked
import Derived.WalkKit
import Derived.WalkSpells
import Derived.WalkLawsBesides
import Derived.BigQuiet
import Derived.Deep.QuietTactic
import Derived.Deep.RegionWith
import Derived.Lib.QuietBelow
import Derived.Lib.OthersKept
import Derived.Laws.MakeOwn
import Derived.Laws.ResultCell
namespace Go.Proofs.Ytgjcppdeljoimaa
open Go.RowKit
def Same (S : Nat → Prop) (w w' : World) : Prop := ∀ b, S b → w'.heap[b]? = w.heap[b]?
theorem Same.cell {S : Nat → Prop} {w w' : World} (h : Same S w w') {b o : Nat} (hb : S b) {v : Value} (hc : w.cell? ⟨b, o, none⟩ = some v) : w'.cell? ⟨b, o, none⟩ = some v :=
  (World.cell?_of_block (w := w) (a := ⟨b, o, none⟩) (h b hb)).trans hc
theorem Same.of_below {S : Nat → Prop} {B : Nat} {w w' : World} (h : Below B w w') (hS : ∀ b, S b → b < B) : Same S w w' := fun b hb => h.block b (hS b hb)
theorem Same.trans {S : Nat → Prop} {w w' w'' : World} (h : Same S w w') (h' : Same S w' w'') : Same S w w'' := fun b hb => (h' b hb).trans (h b hb)
class Lay (α : Type) where
  width : Nat
  At : (Nat → Prop) → World → α → (Nat → Value) → Prop
  tot : α → Nat
  same : ∀ {S : Nat → Prop} {w w' : World} {a : α} {c : Nat → Value}, At S w a c → Same S w w' → At S w' a c
  up : ∀ {S S' : Nat → Prop} {w : World} {a : α} {c : Nat → Value}, At S w a c → (∀ b, S b → S' b) → At S' w a c
  ext : ∀ {S : Nat → Prop} {w : World} {a : α} {c c' : Nat → Value}, At S w a c → (∀ j, j < width → c' j = c j) → At S w a c'
instance : Lay ByteArray where
  width := 1
  At := fun _ _ a c => c 0 = .string a ∧ a.size ≤ maxLen
  tot := fun a => a.size
  same := fun h _ => h
  up := fun h _ => h
  ext := fun h e => ⟨(e 0 (by omega)).trans h.1, h.2⟩
instance : Lay Int where
  width := 1
  At := fun _ _ a c => c 0 = .int .i64 a ∧ -9223372036854775808 ≤ a ∧ a ≤ 9223372036854775807
  tot := fun _ => 0
  same := fun h _ => h
  up := fun h _ => h
  ext := fun h e => ⟨(e 0 (by omega)).trans h.1, h.2⟩
instance : Lay Bool where
  width := 1
  At := fun _ _ a c => c 0 = .bool a
  tot := fun _ => 0
  same := fun h _ => h
  up := fun h _ => h
  ext := fun h e => (e 0 (by omega)).trans h
instance {α β : Type} [Lay α] [Lay β] : Lay (α × β) where
  width := Lay.width α + Lay.width β
  At := fun S w a c => Lay.At S w a.1 c ∧ Lay.At S w a.2 (fun j => c (Lay.width α + j))
  tot := fun a => Lay.tot a.1 + Lay.tot a.2
  same := fun h e => ⟨Lay.same h.1 e, Lay.same h.2 e⟩
  up := fun h e => ⟨Lay.up h.1 e, Lay.up h.2 e⟩
  ext := fun h e => ⟨Lay.ext h.1 (fun j hj => e j (by omega)), Lay.ext h.2 (fun j hj => e _ (by omega))⟩
def AtL {α : Type} [Lay α] (S : Nat → Prop) (w : World) (l : List α) (v : Value) : Prop :=
  ∃ oa cap, v = .slice oa l.length cap ∧ (l.length ≤ maxLen ∧ l.length ≤ cap ∧ Hid (oa = none → cap = 0)) ∧ ∀ i (h : i < l.length), ∃ b off, oa = some ⟨b, off, none⟩ ∧ S b ∧ ∃ c, (∀ j, j < Lay.width α → w.cell? ⟨b, off + i * Lay.width α + j, none⟩ = some (c j)) ∧ Lay.At S w l[i] c
theorem AtL.same {α : Type} [Lay α] {S : Nat → Prop} {w w' : World} {l : List α} {v : Value} (h : AtL S w l v) (e : Same S w w') : AtL S w' l v := by
  obtain ⟨oa, cap, hv, hn, hc⟩ := h
  refine ⟨oa, cap, hv, hn, fun i hi => ?_⟩
  obtain ⟨b, off, h1, h2, c, h3, h4⟩ := hc i hi
  exact ⟨b, off, h1, h2, c, fun j hj => e.cell h2 (h3 j hj), Lay.same h4 e⟩
theorem AtL.up {α : Type} [Lay α] {S S' : Nat → Prop} {w : World} {l : List α} {v : Value} (h : AtL S w l v) (e : ∀ b, S b → S' b) : AtL S' w l v := by
  obtain ⟨oa, cap, hv, hn, hc⟩ := h
  refine ⟨oa, cap, hv, hn, fun i hi => ?_⟩
  obtain ⟨b, off, h1, h2, c, h3, h4⟩ := hc i hi
  exact ⟨b, off, h1, e b h2, c, h3, Lay.up h4 e⟩
def sumTo {α : Type} [Lay α] (l : List α) (k : Nat) : Nat := ((l.take k).map Lay.tot).sum
def totL {α : Type} [Lay α] (l : List α) : Nat := l.length + sumTo l l.length
instance {α : Type} [Lay α] : Lay (List α) where
  width := 1
  At := fun S w l c => AtL S w l (c 0)
  tot := totL
  same := fun h e => AtL.same h e
  up := fun h e => AtL.up h e
  ext := fun h e => by rw [e 0 (by omega)]; exact h
section
variable {α : Type} [Lay α]
end
theorem width_str : Lay.width ByteArray = 1 := rfl
theorem at_str {S : Nat → Prop} {w : World} {a : ByteArray} {c : Nat → Value} : Lay.At S w a c ↔ c 0 = .string a ∧ a.size ≤ maxLen := Iff.rfl
def cs (l : List Value) (j : Nat) : Value := l.getD j (.bool false)
theorem cell_row {w : World} {g : Nat} {c : Array Value} {t : TypeId} (h : w.heap[g]? = some (.cells c t (0, 0))) (i : Nat) (v : Value) (hi : c[i]? = some v) : w.cell? ⟨g, i, none⟩ = some v ∧ w.frozen? ⟨g, i, none⟩ = false := by
  constructor
  · simp [World.cell?, h, hi]
  · simp [World.frozen?, h]
theorem set_row {w : World} {g : Nat} {c : Array Value} {t : TypeId} (h : w.heap[g]? = some (.cells c t (0, 0))) (i : Nat) (v : Value) : (w.setCell ⟨g, i, none⟩ v).heap[g]? = some (.cells (c.setIfInBounds i v) t (0, 0)) := by
  simp [World.setCell, Array.getElem?_modify, h]
theorem cell_past {w : World} {b o : Nat} {v : Value} (h : w.cell? ⟨b, o, none⟩ = some v) (hb : b < w.heap.size) (ob : Obj) : (w.alloc ob).cell? ⟨b, o, none⟩ = some v :=
  (World.cell?_of_block (w := w) (a := ⟨b, o, none⟩) (Below.heap_alloc w ob b hb)).trans h
structure Cp (ta tr : TypeId) (w u : World) (a r c : Array Value) : Prop where
  arg : u.heap[w.heap.size]? = some (.cells a ta (0, 0))
  res : u.heap[w.heap.size + 1]? = some (.cells r tr (0, 0))
  out : u.heap[w.heap.size + 1 + 1]? = some (.cells c tr (0, 0))
  bel : Below w.heap.size w u
theorem Cp.sz {ta tr : TypeId} {w u : World} {a r c : Array Value} (h : Cp ta tr w u a r c) : w.heap.size + 1 + 1 + 1 ≤ u.heap.size := (Array.getElem?_eq_some_iff.1 h.out).1
theorem Cp.next {ta tr : TypeId} {w u u' : World} {a r c : Array Value} (h : Cp ta tr w u a r c) (hb : Below u.heap.size u u') : Cp ta tr w u' a r c := by
  have hs := h.sz
  exact ⟨(hb.block _ (by omega)).trans h.arg, (hb.block _ (by omega)).trans h.res, (hb.block _ (by omega)).trans h.out, h.bel.trans (hb.mono (by omega))⟩
theorem Cp.put {ta tr : TypeId} {w u : World} {a r c : Array Value} (h : Cp ta tr w u a r c) (j : Nat) (x : Value) : Cp ta tr w (u.setCell ⟨w.heap.size + 1 + 1, j, none⟩ x) a r (c.setIfInBounds j x) :=
  ⟨(Below.heap_setCell _ _ _ _ (by show w.heap.size ≠ w.heap.size + 1 + 1; omega)).trans h.arg, (Below.heap_setCell _ _ _ _ (by show w.heap.size + 1 ≠ w.heap.size + 1 + 1; omega)).trans h.res, set_row h.out j x, h.bel.setCell (by show w.heap.size ≤ w.heap.size + 1 + 1; omega) x⟩
theorem Cp.ret {ta tr : TypeId} {w u : World} {a r c : Array Value} (h : Cp ta tr w u a r c) (j : Nat) (x : Value) : Cp ta tr w (u.setCell ⟨w.heap.size + 1, j, none⟩ x) a (r.setIfInBounds j x) c :=
  ⟨(Below.heap_setCell _ _ _ _ (by show w.heap.size ≠ w.heap.size + 1; omega)).trans h.arg, set_row h.res j x, (Below.heap_setCell _ _ _ _ (by show w.heap.size + 1 + 1 ≠ w.heap.size + 1; omega)).trans h.out, h.bel.setCell (by show w.heap.size ≤ w.heap.size + 1; omega) x⟩
theorem box_new (w : World) (c : Array Value) (t : TypeId) : ∃ W, Hid (W = w.alloc (.cells c t)) ∧ Hid (Below w.heap.size w W) ∧ Hid (W.heap[w.heap.size]? = some (.cells c t (0, 0))) ∧ w.heap.size + 1 ≤ W.heap.size := ⟨_, rfl, (Below.refl _ _).alloc (Nat.le_refl _) _, heap_alloc_new w _, by simp⟩
theorem lt_up {S : Nat → Prop} {w : World} (h : ∀ b, S b → b < w.heap.size) : ∀ u, Below w.heap.size w u → ∀ b, S b → b < u.heap.size := fun _ hu b hb => Nat.lt_of_lt_of_le (h b hb) hu.size
theorem AtL.ups {α : Type} [Lay α] {S : Nat → Prop} {w : World} {l : List α} {v : Value} (h : AtL S w l v) (hS : ∀ b, S b → b < w.heap.size) : ∀ u, Below w.heap.size w u → AtL S u l v := fun _ hu => h.same (Same.of_below hu hS)
end Go.Proofs.Ytgjcppdeljoimaa
