/-
  Several texts in one.
-/
import Derived.Test.YtkongeofapbblaaChecked
import Derived.WalkKit
import Derived.WalkSpells
import Derived.WalkLawsBesides
import Derived.BigQuiet
import Derived.Deep.QuietTactic
import Derived.Deep.RegionWith
import Derived.Lib.QuietBelow
import Derived.Lib.OthersKept
import Derived.Laws.MakeOwn
import Derived.Laws.ResultCell
/-
  How data of any shape lie in memory: texts, numbers, truths, structs as pairs, lists; the blocks that they lie in are of a set. No program is named here.
-/
namespace Go.Proofs.Ytkongeofapbblaa
open Go.RowKit

/-- The blocks of a set are in one world what they are in the other. -/
def Same (S : Nat → Prop) (w w' : World) : Prop := ∀ b, S b → w'.heap[b]? = w.heap[b]?
theorem Same.cell {S : Nat → Prop} {w w' : World} (h : Same S w w') {b o : Nat} (hb : S b) {v : Value} (hc : w.cell? ⟨b, o, none⟩ = some v) : w'.cell? ⟨b, o, none⟩ = some v :=
  (World.cell?_of_block (w := w) (a := ⟨b, o, none⟩) (h b hb)).trans hc
theorem Same.of_below {S : Nat → Prop} {B : Nat} {w w' : World} (h : Below B w w') (hS : ∀ b, S b → b < B) : Same S w w' := fun b hb => h.block b (hS b hb)
theorem Same.of_set {S : Nat → Prop} (w : World) (p : Addr) (x : Value) (hS : ¬ S p.block) : Same S w (w.setCell p x) := fun b hb => Below.heap_setCell w p x b (fun e => hS (e ▸ hb))
theorem Same.of_alloc {S : Nat → Prop} (w : World) (o : Obj) (hS : ∀ b, S b → b < w.heap.size) : Same S w (w.alloc o) := fun b hb => Below.heap_alloc w o b (hS b hb)
theorem Same.trans {S : Nat → Prop} {w w' w'' : World} (h : Same S w w') (h' : Same S w' w'') : Same S w w'' := fun b hb => (h' b hb).trans (h b hb)

/-- Data that lie in cells: how many cells each takes, what the cells are; its size by the laws' own measure. -/
class Lay (α : Type) where
  width : Nat
  At : (Nat → Prop) → World → α → (Nat → Value) → Prop
  tot : α → Nat
  same : ∀ {S : Nat → Prop} {w w' : World} {a : α} {c : Nat → Value}, At S w a c → Same S w w' → At S w' a c
  up : ∀ {S S' : Nat → Prop} {w : World} {a : α} {c : Nat → Value}, At S w a c → (∀ b, S b → S' b) → At S' w a c
  ext : ∀ {S : Nat → Prop} {w : World} {a : α} {c c' : Nat → Value}, At S w a c → (∀ j, j < width → c' j = c j) → At S w a c'

instance : Lay ByteArray where
  width := 1
  At := fun _ _ a c => c 0 = .string a ∧ a.size ≤ maxLen
  tot := fun a => a.size
  same := fun h _ => h
  up := fun h _ => h
  ext := fun h e => ⟨(e 0 (by omega)).trans h.1, h.2⟩

instance : Lay Int where
  width := 1
  At := fun _ _ a c => c 0 = .int .i64 a ∧ -9223372036854775808 ≤ a ∧ a ≤ 9223372036854775807
  tot := fun _ => 0
  same := fun h _ => h
  up := fun h _ => h
  ext := fun h e => ⟨(e 0 (by omega)).trans h.1, h.2⟩

instance : Lay Bool where
  width := 1
  At := fun _ _ a c => c 0 = .bool a
  tot := fun _ => 0
  same := fun h _ => h
  up := fun h _ => h
  ext := fun h e => (e 0 (by omega)).trans h

instance {α β : Type} [Lay α] [Lay β] : Lay (α × β) where
  width := Lay.width α + Lay.width β
  At := fun S w a c => Lay.At S w a.1 c ∧ Lay.At S w a.2 (fun j => c (Lay.width α + j))
  tot := fun a => Lay.tot a.1 + Lay.tot a.2
  same := fun h e => ⟨Lay.same h.1 e, Lay.same h.2 e⟩
  up := fun h e => ⟨Lay.up h.1 e, Lay.up h.2 e⟩
  ext := fun h e => ⟨Lay.ext h.1 (fun j hj => e j (by omega)), Lay.ext h.2 (fun j hj => e _ (by omega))⟩

/-- A list's head is one that the language has: not too long, no longer than its room; nowhere only without room. -/
abbrev Fits (oa : Option Addr) (n cap : Nat) : Prop := n ≤ maxLen ∧ n ≤ cap ∧ Hid (oa = none → cap = 0)
/-- A list: its elements lie one behind the other in one block. -/
def AtL {α : Type} [Lay α] (S : Nat → Prop) (w : World) (l : List α) (v : Value) : Prop :=
  ∃ oa cap, v = .slice oa l.length cap ∧ (l.length ≤ maxLen ∧ l.length ≤ cap ∧ Hid (oa = none → cap = 0)) ∧ ∀ i (h : i < l.length), ∃ b off, oa = some ⟨b, off, none⟩ ∧ S b ∧ ∃ c, (∀ j, j < Lay.width α → w.cell? ⟨b, off + i * Lay.width α + j, none⟩ = some (c j)) ∧ Lay.At S w l[i] c

theorem AtL.same {α : Type} [Lay α] {S : Nat → Prop} {w w' : World} {l : List α} {v : Value} (h : AtL S w l v) (e : Same S w w') : AtL S w' l v := by
  obtain ⟨oa, cap, hv, hn, hc⟩ := h
  refine ⟨oa, cap, hv, hn, fun i hi => ?_⟩
  obtain ⟨b, off, h1, h2, c, h3, h4⟩ := hc i hi
  exact ⟨b, off, h1, h2, c, fun j hj => e.cell h2 (h3 j hj), Lay.same h4 e⟩
theorem AtL.up {α : Type} [Lay α] {S S' : Nat → Prop} {w : World} {l : List α} {v : Value} (h : AtL S w l v) (e : ∀ b, S b → S' b) : AtL S' w l v := by
  obtain ⟨oa, cap, hv, hn, hc⟩ := h
  refine ⟨oa, cap, hv, hn, fun i hi => ?_⟩
  obtain ⟨b, off, h1, h2, c, h3, h4⟩ := hc i hi
  exact ⟨b, off, h1, e b h2, c, h3, Lay.up h4 e⟩

/-- How much the first k elements are together. -/
def sumTo {α : Type} [Lay α] (l : List α) (k : Nat) : Nat := ((l.take k).map Lay.tot).sum
def totL {α : Type} [Lay α] (l : List α) : Nat := l.length + sumTo l l.length

instance {α : Type} [Lay α] : Lay (List α) where
  width := 1
  At := fun S w l c => AtL S w l (c 0)
  tot := totL
  same := fun h e => AtL.same h e
  up := fun h e => AtL.up h e
  ext := fun h e => by rw [e 0 (by omega)]; exact h

theorem mem_le_sum : ∀ (l : List Nat) (x : Nat), x ∈ l → x ≤ l.sum
  | [], x, h => by cases h
  | y :: l, x, h => by
    rw [List.sum_cons]
    rcases List.mem_cons.1 h with e | h
    · omega
    · have := mem_le_sum l x h; omega

section
variable {α : Type} [Lay α]
theorem sumTo_zero (l : List α) : sumTo l 0 = 0 := by simp [sumTo]
theorem sumTo_succ (l : List α) (k : Nat) (h : k < l.length) : sumTo l (k + 1) = sumTo l k + Lay.tot l[k] := by
  simp only [sumTo]
  rw [List.take_add_one, List.getElem?_eq_getElem h]
  rw [List.map_append, List.sum_append]
  rfl
theorem sumTo_le (l : List α) (k : Nat) (h : k < l.length) : Lay.tot l[k] ≤ sumTo l l.length := by
  have e : sumTo l l.length = (l.map Lay.tot).sum := by simp [sumTo]
  rw [e]
  exact mem_le_sum _ _ (List.mem_map.2 ⟨_, List.getElem_mem h, rfl⟩)
theorem totL_len (l : List α) : l.length ≤ totL l := by unfold totL; omega
theorem totL_el (l : List α) (k : Nat) (h : k < l.length) : Lay.tot l[k] ≤ totL l := by
  have := sumTo_le l k h; unfold totL; omega
end

theorem width_str : Lay.width ByteArray = 1 := rfl
theorem width_int : Lay.width Int = 1 := rfl
theorem width_bool : Lay.width Bool = 1 := rfl
theorem width_list {α : Type} [Lay α] : Lay.width (List α) = 1 := rfl
theorem width_pair {α β : Type} [Lay α] [Lay β] : Lay.width (α × β) = Lay.width α + Lay.width β := rfl
theorem at_str {S : Nat → Prop} {w : World} {a : ByteArray} {c : Nat → Value} : Lay.At S w a c ↔ c 0 = .string a ∧ a.size ≤ maxLen := Iff.rfl
theorem at_int {S : Nat → Prop} {w : World} {a : Int} {c : Nat → Value} : Lay.At S w a c ↔ c 0 = .int .i64 a ∧ -9223372036854775808 ≤ a ∧ a ≤ 9223372036854775807 := Iff.rfl
theorem at_bool {S : Nat → Prop} {w : World} {a : Bool} {c : Nat → Value} : Lay.At S w a c ↔ c 0 = .bool a := Iff.rfl
theorem at_list {α : Type} [Lay α] {S : Nat → Prop} {w : World} {a : List α} {c : Nat → Value} : Lay.At S w a c ↔ AtL S w a (c 0) := Iff.rfl
theorem at_pair {α β : Type} [Lay α] [Lay β] {S : Nat → Prop} {w : World} {a : α × β} {c : Nat → Value} : Lay.At S w a c ↔ Lay.At S w a.1 c ∧ Lay.At S w a.2 (fun j => c (Lay.width α + j)) := Iff.rfl
theorem tot_str {a : ByteArray} : Lay.tot a = a.size := rfl
theorem tot_int {a : Int} : Lay.tot a = 0 := rfl
theorem tot_bool {a : Bool} : Lay.tot a = 0 := rfl
theorem tot_list {α : Type} [Lay α] {a : List α} : Lay.tot a = totL a := rfl
theorem tot_pair {α β : Type} [Lay α] [Lay β] {a : α × β} : Lay.tot a = Lay.tot a.1 + Lay.tot a.2 := rfl

/-- Cells by their list. -/
def cs (l : List Value) (j : Nat) : Value := l.getD j (.bool false)

/-- A cell of a row that stands in memory, not frozen. -/
theorem cell_row {w : World} {g : Nat} {c : Array Value} {t : TypeId} (h : w.heap[g]? = some (.cells c t (0, 0))) (i : Nat) (v : Value) (hi : c[i]? = some v) : w.cell? ⟨g, i, none⟩ = some v ∧ w.frozen? ⟨g, i, none⟩ = false := by
  constructor
  · simp [World.cell?, h, hi]
  · simp [World.frozen?, h]
theorem set_at (c : Array Value) (i : Nat) (v : Value) (h : i < c.size) : (c.setIfInBounds i v)[i]? = some v := by simp [h]
theorem set_row {w : World} {g : Nat} {c : Array Value} {t : TypeId} (h : w.heap[g]? = some (.cells c t (0, 0))) (i : Nat) (v : Value) : (w.setCell ⟨g, i, none⟩ v).heap[g]? = some (.cells (c.setIfInBounds i v) t (0, 0)) := by
  simp [World.setCell, Array.getElem?_modify, h]
theorem cell_past {w : World} {b o : Nat} {v : Value} (h : w.cell? ⟨b, o, none⟩ = some v) (hb : b < w.heap.size) (ob : Obj) : (w.alloc ob).cell? ⟨b, o, none⟩ = some v :=
  (World.cell?_of_block (w := w) (a := ⟨b, o, none⟩) (Below.heap_alloc w ob b hb)).trans h

/-- Where the copying of a struct stands: the box of what is copied, the result's, the copy's. -/
structure Cp (ta tr : TypeId) (w u : World) (a r c : Array Value) : Prop where
  arg : u.heap[w.heap.size]? = some (.cells a ta (0, 0))
  res : u.heap[w.heap.size + 1]? = some (.cells r tr (0, 0))
  out : u.heap[w.heap.size + 1 + 1]? = some (.cells c tr (0, 0))
  bel : Below w.heap.size w u
theorem Cp.sz {ta tr : TypeId} {w u : World} {a r c : Array Value} (h : Cp ta tr w u a r c) : w.heap.size + 1 + 1 + 1 ≤ u.heap.size := (Array.getElem?_eq_some_iff.1 h.out).1
theorem Cp.next {ta tr : TypeId} {w u u' : World} {a r c : Array Value} (h : Cp ta tr w u a r c) (hb : Below u.heap.size u u') : Cp ta tr w u' a r c := by
  have hs := h.sz
  exact ⟨(hb.block _ (by omega)).trans h.arg, (hb.block _ (by omega)).trans h.res, (hb.block _ (by omega)).trans h.out, h.bel.trans (hb.mono (by omega))⟩
theorem Cp.put {ta tr : TypeId} {w u : World} {a r c : Array Value} (h : Cp ta tr w u a r c) (j : Nat) (x : Value) : Cp ta tr w (u.setCell ⟨w.heap.size + 1 + 1, j, none⟩ x) a r (c.setIfInBounds j x) :=
  ⟨(Below.heap_setCell _ _ _ _ (by show w.heap.size ≠ w.heap.size + 1 + 1; omega)).trans h.arg, (Below.heap_setCell _ _ _ _ (by show w.heap.size + 1 ≠ w.heap.size + 1 + 1; omega)).trans h.res, set_row h.out j x, h.bel.setCell (by show w.heap.size ≤ w.heap.size + 1 + 1; omega) x⟩
theorem Cp.ret {ta tr : TypeId} {w u : World} {a r c : Array Value} (h : Cp ta tr w u a r c) (j : Nat) (x : Value) : Cp ta tr w (u.setCell ⟨w.heap.size + 1, j, none⟩ x) a (r.setIfInBounds j x) c :=
  ⟨(Below.heap_setCell _ _ _ _ (by show w.heap.size ≠ w.heap.size + 1; omega)).trans h.arg, set_row h.res j x, (Below.heap_setCell _ _ _ _ (by show w.heap.size + 1 + 1 ≠ w.heap.size + 1; omega)).trans h.out, h.bel.setCell (by show w.heap.size ≤ w.heap.size + 1; omega) x⟩
theorem cp_init (ta tr : TypeId) (w : World) (a r c : Array Value) : Cp ta tr w (((w.alloc (.cells a ta)).alloc (.cells r tr)).alloc (.cells c tr)) a r c := by
  have e1 : (w.alloc (.cells a ta)).heap.size = w.heap.size + 1 := by simp
  have e2 : ((w.alloc (.cells a ta)).alloc (.cells r tr)).heap.size = w.heap.size + 1 + 1 := by simp
  refine ⟨?_, ?_, ?_, ?_⟩
  · exact (Below.heap_alloc _ _ _ (by omega)).trans ((Below.heap_alloc _ _ _ (by omega)).trans (heap_alloc_new w _))
  · refine (Below.heap_alloc _ _ _ (by omega)).trans ?_
    rw [← e1]; exact heap_alloc_new _ _
  · rw [← e2]; exact heap_alloc_new _ _
  · exact (((Below.refl _ _).alloc (Nat.le_refl _) _).alloc (by omega) _).alloc (by omega) _

end Go.Proofs.Ytkongeofapbblaa

/-
  Plain: what a name is, texts that are compared, lists that are searched, lists whose every element is tested with the one ahead of it. No program is named here.
-/
namespace Go.Proofs.Ytkongeofapbblaa
open Go.RowKit

/-- May a name hold this number of a byte or a rune? -/
def okn (c : Int) : Bool := decide ((97 ≤ c ∧ c ≤ 122) ∨ (48 ≤ c ∧ c ≤ 57) ∨ c = 45)
/-- Is this text a name? -/
def nameB (s : ByteArray) : Bool := decide (1 ≤ s.size ∧ s.size ≤ 8) && s.data.toList.all fun c => okn c.toNat

theorem sz_list (s : ByteArray) : s.size = s.data.toList.length := by simp
theorem gt_list (s : ByteArray) (k : Nat) (h : k < s.size) : s.data.toList[k]? = some s[k] := by
  rw [List.getElem?_eq_getElem (by rw [← sz_list]; exact h)]; rfl

theorem name_short {s : ByteArray} (h : ¬ (1 ≤ s.size ∧ s.size ≤ 8)) : nameB s = false := by simp [nameB]; omega
theorem name_bad {s : ByteArray} {k : Nat} (h : k < s.size) (hc : okn s[k].toNat = false) : nameB s = false := by
  have : (s.data.toList.all fun c => okn c.toNat) = false := by
    rw [List.all_eq_false]
    exact ⟨s[k], List.mem_of_getElem? (gt_list s k h), by simp [hc]⟩
  simp only [nameB, this, Bool.and_false]
theorem name_all {s : ByteArray} (h : 1 ≤ s.size ∧ s.size ≤ 8) (ha : ∀ j (hj : j < s.size), okn s[j].toNat = true) : nameB s = true := by
  have : (s.data.toList.all fun c => okn c.toNat) = true := by
    rw [List.all_eq_true]
    intro c hc
    obtain ⟨j, hj, e⟩ := List.mem_iff_getElem.1 hc
    have hj' : j < s.size := by rw [sz_list]; exact hj
    have := ha j hj'
    rw [← e]; exact this
  simp only [nameB, this, Bool.and_true]
  exact decide_eq_true h

def inB (n lo hi : Int) : Bool := decide (lo ≤ n ∧ n ≤ hi)
def eqB (a b : ByteArray) : Bool := a.toList == b.toList
def ltB (a b : ByteArray) : Bool := Op.bytesLess a.toList b.toList
theorem eqB_refl (a : ByteArray) : eqB a a = true := by simp [eqB]

section
variable {α : Type} {p : α → Bool} {l : List α}
theorem any_yes {k : Nat} (hk : k < l.length) (h : p l[k] = true) : l.any p = true := List.any_eq_true.2 ⟨_, List.getElem_mem hk, h⟩
theorem any_no (h : ∀ j (hj : j < l.length), p l[j] = false) : l.any p = false := by
  rw [List.any_eq_false]
  intro x hx
  obtain ⟨j, hj, rfl⟩ := List.mem_iff_getElem.1 hx
  simp [h j hj]
theorem all_yes (h : ∀ j (hj : j < l.length), p l[j] = true) : l.all p = true := by
  rw [List.all_eq_true]
  intro x hx
  obtain ⟨j, hj, rfl⟩ := List.mem_iff_getElem.1 hx
  exact h j hj
theorem all_no {k : Nat} (hk : k < l.length) (h : p l[k] = false) : l.all p = false := List.all_eq_false.2 ⟨_, List.getElem_mem hk, by simp [h]⟩
/-- Where the first stands, -1 if there is none. -/
def idxI (l : List α) (p : α → Bool) : Int := match l.findIdx? p with | some i => i | none => -1
theorem idx_yes {k : Nat} (hk : k < l.length) (h : p l[k] = true) (hno : ∀ j (hj : j < l.length), j < k → p l[j] = false) : idxI l p = k := by
  have : l.findIdx? p = some k := by
    rw [List.findIdx?_eq_some_iff_getElem]
    exact ⟨hk, h, fun j hj => by simp [hno j (by omega) hj]⟩
  simp only [idxI, this]
theorem idx_no (h : ∀ j (hj : j < l.length), p l[j] = false) : idxI l p = -1 := by
  have : l.findIdx? p = none := by
    rw [List.findIdx?_eq_none_iff]
    intro x hx
    obtain ⟨j, hj, rfl⟩ := List.mem_iff_getElem.1 hx
    exact h j hj
  simp only [idxI, this]
theorem find_yes {k : Nat} (hk : k < l.length) (h : p l[k] = true) (hno : ∀ j (hj : j < l.length), j < k → p l[j] = false) : l.find? p = some l[k] := by
  rw [List.find?_eq_some_iff_getElem]
  exact ⟨h, k, hk, rfl, fun j hj => by simp [hno j (by omega) hj]⟩
theorem find_no (h : ∀ j (hj : j < l.length), p l[j] = false) : l.find? p = none := by
  rw [List.find?_eq_none]
  intro x hx
  obtain ⟨j, hj, rfl⟩ := List.mem_iff_getElem.1 hx
  simp [h j hj]
end

def hasB (l : List ByteArray) (x : ByteArray) : Bool := l.any fun f => eqB f x
section
variable {α : Type}
/-- The element ahead of one, if there is one. -/
def prevO (l : List α) (i : Nat) : Option α := if i = 0 then none else l[i - 1]?
theorem prev_zero (l : List α) : prevO l 0 = none := rfl
theorem prev_succ (l : List α) (m : Nat) (h : m < l.length) : prevO l (m + 1) = some l[m] := by
  simp [prevO, List.getElem?_eq_getElem h]
/-- Is a list short enough, and does each element pass, with the one ahead of it? -/
noncomputable def okB (lim : Nat) (T : Option α → α → Bool) (l : List α) : Bool := @decide (l.length ≤ lim ∧ ∀ i (h : i < l.length), T (prevO l i) l[i] = true) (Classical.propDecidable _)
theorem ok_yes {lim : Nat} {T : Option α → α → Bool} {l : List α} (h0 : l.length ≤ lim) (h : ∀ i (h : i < l.length), T (prevO l i) l[i] = true) : okB lim T l = true := by
  unfold okB; exact @decide_eq_true _ (Classical.propDecidable _) ⟨h0, h⟩
theorem ok_long {lim : Nat} {T : Option α → α → Bool} {l : List α} (h0 : ¬ l.length ≤ lim) : okB lim T l = false := by
  unfold okB; exact @decide_eq_false _ (Classical.propDecidable _) (fun h => h0 h.1)
theorem ok_no {lim : Nat} {T : Option α → α → Bool} {l : List α} {k : Nat} (hk : k < l.length) (h : T (prevO l k) l[k] = false) : okB lim T l = false := by
  unfold okB; exact @decide_eq_false _ (Classical.propDecidable _) (fun h' => by have := h'.2 k hk; rw [h] at this; cases this)
theorem ok_iff {lim : Nat} {T : Option α → α → Bool} {l : List α} : okB lim T l = true ↔ l.length ≤ lim ∧ ∀ i (h : i < l.length), T (prevO l i) l[i] = true := by
  unfold okB; exact @decide_eq_true_iff _ (Classical.propDecidable _)
end

section
variable {α : Type}
/-- An element behind the one ahead of it; an element that passes besides. -/
def asO (R : α → α → Bool) : Option α → α → Bool
  | none, _ => true
  | some p, x => R p x
def tst (P : α → Bool) (R : α → α → Bool) (o : Option α) (x : α) : Bool := P x && asO R o x
theorem as_zero {R : α → α → Bool} {l : List α} (j : Nat) (hj : j < l.length) (h : j = 0) : asO R (prevO l j) l[j] = true := by
  subst h; rw [prev_zero]; rfl
noncomputable def ascB (R : α → α → Bool) (l : List α) : Bool := okB l.length (asO R) l
theorem tst_asc {lim : Nat} {P : α → Bool} {R : α → α → Bool} {l : List α} (h0 : l.length ≤ lim) (hP : ∀ j (hj : j < l.length), P l[j] = true) : okB lim (tst P R) l = ascB R l := by
  rw [Bool.eq_iff_iff, ascB, ok_iff, ok_iff]
  constructor
  · rintro ⟨_, h⟩
    exact ⟨Nat.le_refl _, fun i hi => by have := h i hi; rw [tst, hP i hi, Bool.true_and] at this; exact this⟩
  · rintro ⟨_, h⟩
    exact ⟨h0, fun i hi => by rw [tst, hP i hi, h i hi]; rfl⟩
theorem tst_no {lim : Nat} {P : α → Bool} {R : α → α → Bool} {l : List α} {k : Nat} (hk : k < l.length) (h : P l[k] = false) : okB lim (tst P R) l = false :=
  ok_no hk (by rw [tst, h]; rfl)
end

theorem box_at {w : World} (o : Array Value) (t : TypeId) {wr : World} (hb : Below (w.heap.size + 1) (w.alloc (.cells o t)) wr) (j : Nat) (v : Value) (h : o[j]? = some v) : wr.cell? ⟨w.heap.size, j, none⟩ = some v := by
  refine (hb.cell (p := ⟨w.heap.size, j, none⟩) (by show w.heap.size < _; omega)).trans ?_
  simp only [World.cell?, heap_alloc_new, h]; rfl
theorem below_end {w wr : World} {o : Obj} (hb : Below (w.heap.size + 1) (w.alloc o) wr) : Below w.heap.size w wr :=
  ((Below.refl _ _).alloc (Nat.le_refl _) o).trans (hb.mono (by omega))
theorem below_of {w wr wr' : World} {o : Obj} (hb : Below (w.heap.size + 1) (w.alloc o) wr) (h : Below wr.heap.size wr wr') : Below (w.heap.size + 1) (w.alloc o) wr' :=
  hb.trans (h.mono (by have := hb.size; simp at this; exact this))

end Go.Proofs.Ytkongeofapbblaa

/-
  The ends of a recipe, by the model.
-/
namespace Go.Proofs.Ytkongeofapbblaa
open Go.RowKit

/-- Is it this text? -/
def isT (s : ByteArray) (l : List UInt8) : Bool := s.toList == l
/-- The number of an end, 0 of any other text. -/
def endI (s : ByteArray) : Int := if isT s [103, 111, 111, 100] = true then 1 else if isT s [115, 97, 118, 101, 100] = true then 2 else if isT s [115, 99, 114, 97, 112, 112, 101, 100] = true then 3 else 0

set_option maxRecDepth 100000 in
set_option maxHeartbeats 4000000 in
theorem endX_any (s : ByteArray) (w : World) : Calls Try.prog 27 #[.string s] w fun e w' => e = .returned (.int .i64 (endI s)) ∧ w' = w := by
  unfold endI
  cases h1 : isT s [103, 111, 111, 100]
  · cases h2 : isT s [115, 97, 118, 101, 100]
    · cases h3 : isT s [115, 99, 114, 97, 112, 112, 101, 100]
      · unfold isT at h1 h2 h3
        go_enter Try.func27, Try.ntmps27
        go_wp2
        go_ret
        exact ⟨rfl, rfl⟩
      · unfold isT at h1 h2 h3
        go_enter Try.func27, Try.ntmps27
        go_wp2
        go_ret
        exact ⟨rfl, rfl⟩
    · unfold isT at h1 h2
      go_enter Try.func27, Try.ntmps27
      go_wp2
      go_ret
      exact ⟨rfl, rfl⟩
  · unfold isT at h1
    go_enter Try.func27, Try.ntmps27
    go_wp2
    go_ret
    exact ⟨rfl, rfl⟩

end Go.Proofs.Ytkongeofapbblaa

/-
  Types of the laws as data.
-/
namespace Go.Proofs.Ytkongeofapbblaa
open Go.RowKit
abbrev DRecPhase := ByteArray × Int × ByteArray × ByteArray × Int × Int × ByteArray × ByteArray
theorem width_DRecPhase : Lay.width DRecPhase = 8 := rfl
theorem at_DRecPhase {S : Nat → Prop} {w : World} {a : DRecPhase} {c : Nat → Value} : Lay.At S w a c ↔ (c 0 = .string a.1 ∧ a.1.size ≤ maxLen) ∧ (c 1 = .int .i64 a.2.1 ∧ -9223372036854775808 ≤ a.2.1 ∧ a.2.1 ≤ 9223372036854775807) ∧ (c 2 = .string a.2.2.1 ∧ a.2.2.1.size ≤ maxLen) ∧ (c 3 = .string a.2.2.2.1 ∧ a.2.2.2.1.size ≤ maxLen) ∧ (c 4 = .int .i64 a.2.2.2.2.1 ∧ -9223372036854775808 ≤ a.2.2.2.2.1 ∧ a.2.2.2.2.1 ≤ 9223372036854775807) ∧ (c 5 = .int .i64 a.2.2.2.2.2.1 ∧ -9223372036854775808 ≤ a.2.2.2.2.2.1 ∧ a.2.2.2.2.2.1 ≤ 9223372036854775807) ∧ (c 6 = .string a.2.2.2.2.2.2.1 ∧ a.2.2.2.2.2.2.1.size ≤ maxLen) ∧ (c 7 = .string a.2.2.2.2.2.2.2 ∧ a.2.2.2.2.2.2.2.size ≤ maxLen) := Iff.rfl
theorem tot_DRecPhase {a : DRecPhase} : Lay.tot a = a.1.size + (0 + (a.2.2.1.size + (a.2.2.2.1.size + (0 + (0 + (a.2.2.2.2.2.2.1.size + (a.2.2.2.2.2.2.2.size))))))) := rfl

end Go.Proofs.Ytkongeofapbblaa
