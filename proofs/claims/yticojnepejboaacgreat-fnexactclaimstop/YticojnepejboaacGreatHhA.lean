/-
  Several texts in one.
-/
import Derived.Test.YticojnepejboaacGreatLy
import Derived.StillTail
import Derived.Deep.Quiet
import Derived.Lib.QuietBelow
import Derived.Laws.OwnMore
import Derived.Lib.SmallJoins
import Derived.Maps.AppendAt
namespace Go.Proofs.YticojnepejboaacGreat

/-
  Data that own the blocks they lie in: no two of its lists share one. What is marked, and how: number by number. No program is named here.
-/
section
open Go.RowKit

/-- Nothing has turned but blocks of a set, and what is new. -/
structure But (S : Nat → Prop) (w w' : World) : Prop where
  os : w'.os = w.os
  tape : w'.tape = w.tape
  output : w'.output = w.output
  size : w.heap.size ≤ w'.heap.size
  block : ∀ b, b < w.heap.size → ¬ S b → w'.heap[b]? = w.heap[b]?
theorem But.refl (S : Nat → Prop) (w : World) : But S w w := ⟨rfl, rfl, rfl, Nat.le_refl _, fun _ _ _ => rfl⟩
theorem But.trans {S : Nat → Prop} {a b c : World} (h : But S a b) (k : But S b c) : But S a c :=
  ⟨k.os.trans h.os, k.tape.trans h.tape, k.output.trans h.output, Nat.le_trans h.size k.size, fun i hi hn => (k.block i (Nat.lt_of_lt_of_le hi h.size) hn).trans (h.block i hi hn)⟩
theorem But.of_below {S : Nat → Prop} {w w' : World} (h : Below w.heap.size w w') : But S w w' := ⟨h.os, h.tape, h.output, h.size, fun b hb _ => h.block b hb⟩
theorem But.up {S S' : Nat → Prop} {w w' : World} (h : But S w w') (e : ∀ b, S b → S' b) : But S' w w' := ⟨h.os, h.tape, h.output, h.size, fun b hb hn => h.block b hb (fun hs => hn (e b hs))⟩
theorem But.below {S : Nat → Prop} {B : Nat} {w w' : World} (h : But S w w') (hS : ∀ b, S b → B ≤ b) (hB : B ≤ w.heap.size) : Below B w w' := ⟨h.os, h.tape, h.output, h.size, fun b hb => h.block b (by omega) (fun hs => by have := hS b hs; omega)⟩
theorem But.of_low {S : Nat → Prop} {B : Nat} {w w' : World} (h : Below B w w') (hB : ∀ b, b < w.heap.size → ¬ S b → w'.heap[b]? = w.heap[b]?) : But S w w' := ⟨h.os, h.tape, h.output, h.size, hB⟩
theorem But.set {S : Nat → Prop} {a w : World} (h : But S a w) {g : Nat} (hg : S g) (i : Nat) (x : Value) : But S a (w.setCell ⟨g, i, none⟩ x) := by
  have hb := (Below.refl g w).setCell (p := ⟨g, i, none⟩) (Nat.le_refl _) x
  exact h.trans (But.of_low hb (fun b _ hn => Below.heap_setCell w _ x b (fun e => hn (by have : b = g := e; rw [this]; exact hg))))
theorem But.same {S T : Nat → Prop} {w w' : World} (h : But S w w') (hT : ∀ b, T b → b < w.heap.size ∧ ¬ S b) : Same T w w' := fun b hb => h.block b (hT b hb).1 (hT b hb).2

/-- The text that marks a place, written digit by digit from its end. -/
def dgO : Nat → Int → ByteArray → ByteArray
  | 0, _, t => t
  | n + 1, k, t => if 0 < k then dgO n (k / 10) (⟨#[UInt8.ofNat (48 + k % 10).toNat]⟩ ++ t) else t
def mkO (k : Int) : ByteArray := ⟨#[109]⟩ ++ dgO 20 k ⟨#[]⟩
theorem dgO_end (n : Nat) (k : Int) (t : ByteArray) (h : ¬ 0 < k) : dgO n k t = t := by
  cases n with
  | zero => rfl
  | succ n => simp [dgO, h]
theorem dgO_size : ∀ (n : Nat) (k : Int) (t : ByteArray), (dgO n k t).size ≤ n + t.size
  | 0, _, t => by simp [dgO]
  | n + 1, k, t => by
    unfold dgO
    split
    · have h := dgO_size n (k / 10) (⟨#[UInt8.ofNat (48 + k % 10).toNat]⟩ ++ t)
      have e1 : (⟨#[UInt8.ofNat (48 + k % 10).toNat]⟩ : ByteArray).size = 1 := rfl
      rw [ByteArray.size_append, e1] at h
      omega
    · omega
theorem mkO_size (k : Int) : (mkO k).size ≤ 21 := by
  have h := dgO_size 20 k ⟨#[]⟩
  have e1 : (⟨#[109]⟩ : ByteArray).size = 1 := rfl
  have e0 : (⟨#[]⟩ : ByteArray).size = 0 := rfl
  unfold mkO
  rw [ByteArray.size_append, e1]
  omega

/-- Data that own their blocks; how many marks they take; the data marked from k on. -/
class Own (α : Type) extends Lay α where
  On : (Nat → Prop) → World → α → (Nat → Value) → Prop
  cnt : α → Nat
  mkD : Int → α → α
  on_at : ∀ {S : Nat → Prop} {w : World} {a : α} {c : Nat → Value}, On S w a c → Lay.At S w a c
  on_same : ∀ {S : Nat → Prop} {w w' : World} {a : α} {c : Nat → Value}, On S w a c → Same S w w' → On S w' a c
  on_up : ∀ {S S' : Nat → Prop} {w : World} {a : α} {c : Nat → Value}, On S w a c → (∀ b, S b → S' b) → On S' w a c
  on_ext : ∀ {S : Nat → Prop} {w : World} {a : α} {c c' : Nat → Value}, On S w a c → (∀ j, j < width → c' j = c j) → On S w a c'

instance : Own ByteArray where
  On := fun S w a c => Lay.At S w a c
  cnt := fun _ => 1
  mkD := fun k _ => mkO k
  on_at := fun h => h
  on_same := fun h e => Lay.same h e
  on_up := fun h e => Lay.up h e
  on_ext := fun h e => Lay.ext h e

instance : Own Int where
  On := fun S w a c => Lay.At S w a c
  cnt := fun _ => 1
  mkD := fun k _ => k
  on_at := fun h => h
  on_same := fun h e => Lay.same h e
  on_up := fun h e => Lay.up h e
  on_ext := fun h e => Lay.ext h e

instance {α β : Type} [Own α] [Own β] : Own (α × β) where
  On := fun S w a c => ∃ S1 S2 : Nat → Prop, (∀ b, S1 b → S b ∧ ¬ S2 b) ∧ (∀ b, S2 b → S b) ∧ Own.On S1 w a.1 c ∧ Own.On S2 w a.2 (fun j => c (Lay.width α + j))
  cnt := fun a => Own.cnt a.1 + Own.cnt a.2
  mkD := fun k a => (Own.mkD k a.1, Own.mkD (k + Own.cnt a.1) a.2)
  on_at := fun ⟨_, _, h1, h2, ha, hb⟩ => ⟨Lay.up (Own.on_at ha) (fun b hb => (h1 b hb).1), Lay.up (Own.on_at hb) h2⟩
  on_same := fun ⟨S1, S2, h1, h2, ha, hb⟩ e => ⟨S1, S2, h1, h2, Own.on_same ha (fun b hb => e b (h1 b hb).1), Own.on_same hb (fun b hb => e b (h2 b hb))⟩
  on_up := fun ⟨S1, S2, h1, h2, ha, hb⟩ e => ⟨S1, S2, fun b hb => ⟨e b (h1 b hb).1, (h1 b hb).2⟩, fun b hb => e b (h2 b hb), ha, hb⟩
  on_ext := fun ⟨S1, S2, h1, h2, ha, hb⟩ e => ⟨S1, S2, h1, h2, Own.on_ext ha (fun j hj => e j (by show j < Lay.width _ + Lay.width _; omega)), Own.on_ext hb (fun j hj => e _ (by show _ < Lay.width _ + Lay.width _; omega))⟩

/-- Where the elements of a list stand in a block of its own; the blocks of each are its alone. -/
structure Els {α : Type} [Own α] (S : Nat → Prop) (w : World) (g off : Nat) (Ss : Nat → Nat → Prop) (cur : Array Value) (t : TypeId) (n : Nat) (f : Nat → α) : Prop where
  row : w.heap[g]? = some (.cells cur t (0, 0))
  own : S g
  sub : ∀ i b, Ss i b → S b ∧ b ≠ g
  dis : ∀ i j b, Ss i b → Ss j b → i = j
  el : ∀ i, i < n → ∃ c : Nat → Value, (∀ j, j < Lay.width α → cur[off + i * Lay.width α + j]? = some (c j)) ∧ Own.On (Ss i) w (f i) c

def nth {α : Type} (l : List α) (d : α) (i : Nat) : α := l.getD i d

def OnL {α : Type} [Own α] (S : Nat → Prop) (w : World) (l : List α) (v : Value) : Prop :=
  ∃ oa cap, v = .slice oa l.length cap ∧ (l.length ≤ maxLen ∧ l.length ≤ cap ∧ Hid (oa = none → cap = 0)) ∧ (l = [] ∨ ∃ g off Ss cur t, oa = some ⟨g, off, none⟩ ∧ ∃ f : Nat → α, (∀ i (h : i < l.length), f i = l[i]) ∧ Els S w g off Ss cur t l.length f)

section
variable {α : Type} [Own α]
theorem Els.same {S : Nat → Prop} {w w' : World} {g off : Nat} {Ss : Nat → Nat → Prop} {cur : Array Value} {t : TypeId} {n : Nat} {f : Nat → α} (h : Els S w g off Ss cur t n f) (e : Same S w w') : Els S w' g off Ss cur t n f :=
  ⟨(e g h.own).trans h.row, h.own, h.sub, h.dis, fun i hi => by
    obtain ⟨c, h1, h2⟩ := h.el i hi
    exact ⟨c, h1, Own.on_same h2 (fun b hb => e b (h.sub i b hb).1)⟩⟩
theorem Els.up {S S' : Nat → Prop} {w : World} {g off : Nat} {Ss : Nat → Nat → Prop} {cur : Array Value} {t : TypeId} {n : Nat} {f : Nat → α} (h : Els S w g off Ss cur t n f) (e : ∀ b, S b → S' b) : Els S' w g off Ss cur t n f :=
  ⟨h.row, e g h.own, fun i b hb => ⟨e b (h.sub i b hb).1, (h.sub i b hb).2⟩, h.dis, h.el⟩
theorem OnL.same {S : Nat → Prop} {w w' : World} {l : List α} {v : Value} (h : OnL S w l v) (e : Same S w w') : OnL S w' l v := by
  obtain ⟨oa, cap, hv, hn, h⟩ := h
  refine ⟨oa, cap, hv, hn, h.imp id ?_⟩
  rintro ⟨g, off, Ss, cur, t, ho, f, hf, h⟩
  exact ⟨g, off, Ss, cur, t, ho, f, hf, h.same e⟩
theorem OnL.up {S S' : Nat → Prop} {w : World} {l : List α} {v : Value} (h : OnL S w l v) (e : ∀ b, S b → S' b) : OnL S' w l v := by
  obtain ⟨oa, cap, hv, hn, h⟩ := h
  refine ⟨oa, cap, hv, hn, h.imp id ?_⟩
  rintro ⟨g, off, Ss, cur, t, ho, f, hf, h⟩
  exact ⟨g, off, Ss, cur, t, ho, f, hf, h.up e⟩
theorem OnL.at_ {S : Nat → Prop} {w : World} {l : List α} {v : Value} (h : OnL S w l v) : AtL S w l v := by
  obtain ⟨oa, cap, hv, hn, h⟩ := h
  refine ⟨oa, cap, hv, hn, fun i hi => ?_⟩
  rcases h with h | ⟨g, off, Ss, cur, t, ho, f, hf, h⟩
  · subst h; exact absurd hi (Nat.not_lt_zero _)
  · obtain ⟨c, h1, h2⟩ := h.el i hi
    refine ⟨g, off, ho, h.own, c, fun j hj => (cell_row h.row _ _ (h1 j hj)).1, ?_⟩
    rw [← hf i hi]
    exact Lay.up (Own.on_at h2) (fun b hb => (h.sub i b hb).1)

/-- How many marks the first k take. -/
def cntTo (l : List α) (k : Nat) : Nat := ((l.take k).map Own.cnt).sum
def cntL (l : List α) : Nat := cntTo l l.length
def mkL : Int → List α → List α
  | _, [] => []
  | k, x :: l => Own.mkD k x :: mkL (k + Own.cnt x) l
theorem mkL_len : ∀ (k : Int) (l : List α), (mkL k l).length = l.length
  | _, [] => rfl
  | k, x :: l => by simp [mkL, mkL_len]
theorem cntTo_zero (l : List α) : cntTo l 0 = 0 := by simp [cntTo]
theorem cntTo_succ (l : List α) (k : Nat) (h : k < l.length) : cntTo l (k + 1) = cntTo l k + Own.cnt l[k] := by
  simp only [cntTo]
  rw [List.take_add_one, List.getElem?_eq_getElem h, List.map_append, List.sum_append]
  rfl
theorem mkL_at : ∀ (k : Int) (l : List α) (i : Nat) (h : i < l.length), (mkL k l)[i]'(by rw [mkL_len]; exact h) = Own.mkD (k + cntTo l i) l[i]
  | _, [], _, h => absurd h (Nat.not_lt_zero _)
  | k, x :: l, 0, _ => by simp [mkL, cntTo]
  | k, x :: l, i + 1, h => by
    have h' := mkL_at (k + Own.cnt x) l i (by simpa using h)
    simp only [mkL, List.getElem_cons_succ]
    rw [h']
    congr 1
    simp only [cntTo, List.take_succ_cons, List.map_cons, List.sum_cons]
    omega
end

instance {α : Type} [Own α] : Own (List α) where
  On := fun S w l c => OnL S w l (c 0)
  cnt := cntL
  mkD := mkL
  on_at := fun h => OnL.at_ h
  on_same := fun h e => OnL.same h e
  on_up := fun h e => OnL.up h e
  on_ext := fun h e => by rw [e 0 (Nat.zero_lt_one)]; exact h
end

/-
  A law on a region that draws its order: a head of operations that each yield one value in whatever world of a class (calls among them), in any order, and behind it a tail that waits for all of them: one walk serves every order. No program is named here.
-/
section
open Go.Sort

section
variable {P : Program} {md : Region.Mode} {C : World → Prop}

/-- Of each operation ahead of n: it bears no guard, and waits only for earlier ones. -/
def downB (l : List Oper) (n : Nat) : Bool := (List.range n).all fun j => match l[j]? with
  | some o => o.guard.isNone && o.after.all fun e => decide (e.on < j)
  | none => false

theorem down_at {l : List Oper} {n j : Nat} (h : downB l n = true) (hj : j < n) : ∃ o, l[j]? = some o ∧ o.guard = none ∧ ∀ e ∈ o.after, e.on < j := by
  have h1 := List.all_eq_true.1 h j (List.mem_range.2 hj)
  cases ho : l[j]? with
  | none => rw [ho] at h1; cases h1
  | some o =>
    rw [ho] at h1
    simp only [Bool.and_eq_true, Option.isNone_iff_eq_none, Array.all_eq_true'] at h1
    exact ⟨o, rfl, h1.1, fun e he => by simpa using h1.2 e he⟩

theorem wanted_none {o : Oper} (h : o.guard = none) (ys : Nat → Option Bool) : Region.wanted o ys = true := by
  simp [Region.wanted, h]

/-- What is listed of the head, and nothing of the tail. -/
def padB (lh : Array Bool) (t : Nat) : Array Bool := lh ++ Array.replicate t false

theorem pad_lt {lh : Array Bool} {t i : Nat} (d : Bool) (h : i < lh.size) : (padB lh t).getD i d = lh.getD i d := by
  simp [padB, Array.getElem?_append_left h]
theorem pad_set {lh : Array Bool} {t i : Nat} (h : i < lh.size) : (padB lh t).setIfInBounds i true = padB (lh.setIfInBounds i true) t := by
  apply Array.ext'
  simp only [padB, Array.toList_setIfInBounds, Array.toList_append]
  exact List.set_append_left _ _ (by rw [Array.length_toList]; exact h)

theorem ready_head {l : List Oper} {n i : Nat} {lh : Array Bool} (hd : downB l n = true) (hs : lh.size = n) (hi : i < n) :
    i ∈ Region.ready md l.toArray (padB lh (l.length - n)) ↔ i ∈ Region.ready md (l.take n).toArray lh := by
  obtain ⟨o, ho, _, hdn⟩ := down_at hd hi
  rw [mem_ready, mem_ready, pad_lt true (by omega)]
  have e1 : l.toArray[i]? = some o := by simpa using ho
  have e2 : (l.take n).toArray[i]? = some o := by simp [hi, ho]
  refine and_congr Iff.rfl ⟨fun ⟨o', h1, h2⟩ => ?_, fun ⟨o', h1, h2⟩ => ?_⟩
  · obtain rfl := Option.some.inj (e1.symm.trans h1)
    exact ⟨o, e2, fun e he hb => by rw [← pad_lt (t := l.length - n) false (by have := hdn e he; omega)]; exact h2 e he hb⟩
  · obtain rfl := Option.some.inj (e2.symm.trans h1)
    exact ⟨o, e1, fun e he hb => by rw [pad_lt false (by have := hdn e he; omega)]; exact h2 e he hb⟩

/-- Where one of the head has not come up yet, one of the head may come up. -/
theorem ready_some {l : List Oper} {n : Nat} {lh : Array Bool} (hd : downB l n = true) (hs : lh.size = n) : ∀ (i : Nat), i < n → lh.getD i true = false → ∃ j, j < n ∧ j ∈ Region.ready md (l.take n).toArray lh := by
  intro i
  induction i using Nat.strongRecOn with
  | _ i ih =>
    intro hi hun
    obtain ⟨o, ho, _, hdn⟩ := down_at hd hi
    by_cases hr : i ∈ Region.ready md (l.take n).toArray lh
    · exact ⟨i, hi, hr⟩
    · have : ∃ e ∈ o.after, Region.binds md e = true ∧ lh.getD e.on false = false := by
        refine Classical.byContradiction fun hno => hr (mem_ready.2 ⟨hun, o, by simp [hi, ho], fun e he hb => ?_⟩)
        cases hx : lh.getD e.on false with
        | true => rfl
        | false => exact absurd ⟨e, he, hb, hx⟩ hno
      obtain ⟨e, he, _, hx⟩ := this
      have hlt := hdn e he
      exact ih e.on hlt (by omega) (getD_in (by omega) hx)

/-- How many of the head have not come up. -/
def leftN (lh : Array Bool) : Nat := (lh.toList.filter fun b => !b).length
theorem left_some {lh : Array Bool} (h : 0 < leftN lh) : ∃ i, i < lh.size ∧ lh.getD i true = false := by
  obtain ⟨b, hb⟩ := List.exists_mem_of_length_pos h
  obtain ⟨h1, h2⟩ := List.mem_filter.1 hb
  obtain ⟨i, hi, he⟩ := List.getElem_of_mem h1
  refine ⟨i, by simpa using hi, ?_⟩
  have : lh[i]? = some b := by rw [← Array.getElem?_toList, List.getElem?_eq_getElem hi, he]
  simp [Array.getD_eq_getD_getElem?, this]
  simpa using h2
theorem left_none {lh : Array Bool} (h : leftN lh = 0) : lh = Array.replicate lh.size true := by
  apply Array.ext'
  rw [Array.toList_replicate]
  refine List.eq_replicate_iff.2 ⟨by simp, fun b hb => ?_⟩
  cases b with
  | true => rfl
  | false =>
    have : false ∈ lh.toList.filter fun b => !b := List.mem_filter.2 ⟨hb, rfl⟩
    rw [List.eq_nil_of_length_eq_zero h] at this
    cases this
theorem left_list : ∀ (l : List Bool) (i : Nat), l[i]? = some false → ((l.set i true).filter fun b => !b).length + 1 = (l.filter fun b => !b).length
  | [], i, h => by simp at h
  | b :: l, 0, h => by
    simp at h; subst h; simp
  | b :: l, i + 1, h => by
    have := left_list l i (by simpa using h)
    cases b <;> simp_all
theorem left_set {lh : Array Bool} {i : Nat} (h : lh.getD i true = false) (hi : i < lh.size) : leftN (lh.setIfInBounds i true) + 1 = leftN lh := by
  unfold leftN
  rw [Array.toList_setIfInBounds]
  refine left_list lh.toList i ?_
  have : lh[i]? = some false := by
    rw [Array.getElem?_eq_getElem hi]
    have h2 := h
    rw [Array.getD_eq_getD_getElem?, Array.getElem?_eq_getElem hi] at h2
    simpa using h2
  simpa using this

theorem head_sim {l : List Oper} {n : Nat} {Q : Exit → Act → World → Prop} {Qh : Act → Prop} (hd : downB l n = true) (hn : n < l.length) (hs : Region.sinkB md l.toArray n = true) (hc : Region.chainB md l.toArray n = true)
    (hQ : ∀ a w, C w → Qh a → wpAny P md l.toArray Q (l.length - n) (padB (Array.replicate n true) (l.length - n)) a w) :
    ∀ (f : Nat) (lh : Array Bool) (a : Act) (w : World), lh.size = n → leftN lh = f → HeadInv md l.toArray n (padB lh (l.length - n)) → C w →
      wpAnyQ P md (l.take n).toArray C Qh f lh a → wpAny P md l.toArray Q (f + (l.length - n)) (padB lh (l.length - n)) a w := by
  intro f
  induction f with
  | zero =>
    intro lh a w hsz hl _ hw h
    rw [Nat.zero_add, left_none hl, hsz]
    exact hQ a w hw h.2
  | succ f ih =>
    intro lh a w hsz hl inv hw h
    obtain ⟨i0, hi0, hun0⟩ := left_some (lh := lh) (by omega)
    rw [show f + 1 + (l.length - n) = (f + (l.length - n)) + 1 by omega]
    refine ⟨fun h0 => ?_, fun i hi => ?_⟩
    · obtain ⟨j, hj, hr⟩ := ready_some (md := md) hd hsz i0 (by omega) hun0
      have := (ready_head hd hsz hj).2 hr
      rw [h0] at this
      cases this
    · have hin : i < n := by
        refine Nat.lt_of_not_le fun hle => ?_
        exact tail_waits hs hc (by simpa using hn) inv _ i0 rfl (by omega) (by rw [pad_lt true (by omega)]; exact hun0) i hle hi
      have hrh := (ready_head hd hsz hin).1 hi
      have hq := h.2 i hrh
      obtain ⟨o, ho, hg, _⟩ := down_at hd hin
      have e1 : l.toArray[i]? = some o := by simpa using ho
      have e2 : (l.take n).toArray[i]? = some o := by simp [hin, ho]
      have hun : lh.getD i true = false := (mem_ready.1 hrh).1
      unfold qOp at hq
      simp only [e2, wanted_none hg, if_true] at hq
      unfold wpOp
      simp only [e1, wanted_none hg, if_true]
      refine .inl (Oper.wp_of_quiet hw (fun a' w' hw' hk => ?_) hq)
      rw [pad_set (by omega)]
      refine ih (lh.setIfInBounds i true) a' w' (by simpa using hsz) (by have := left_set hun (by omega); omega) ?_ hw' hk
      rw [← pad_set (by omega)]
      exact inv.set hi hin

/-- All that is asked of the region's text. -/
def headTailB (l : List Oper) (n : Nat) : Bool :=
  downB l n && decide (n < l.length) && Region.sinkB .any l.toArray n && Region.chainB .any l.toArray n && Region.lexB .any (l.take n).toArray && Region.seqB .any l.toArray (l.length - n) n (padB (Array.replicate n true) (l.length - n))

theorem wp_region_head_tail {id : Nat} {Q : Exit → Act → World → Prop} {a : Act} {w : World} {l : List Oper} (n : Nat) (hm : P.follows .mixedOrders = true) (hB : headTailB l n = true)
    (h : wpQuiet P (l.take n).toArray (fun w' => ∃ p : Regrown, w' = grow (redrawn w p.d) p.os) (fun a' => ∀ w', (∃ p : Regrown, w' = grow (redrawn w p.d) p.os) → wpList P l.toArray Q (l.drop n) a' w') (l.take n) a) :
    (Code.region id l.toArray true).wp P Q a w := by
  simp only [headTailB, Bool.and_eq_true, decide_eq_true_eq] at hB
  obtain ⟨⟨⟨⟨⟨hd, hn⟩, hs⟩, hc⟩, hlex⟩, hseq⟩ := hB
  simp only [Region.lexB, Bool.and_eq_true] at hlex
  have htl : (l.take n).length = n := by simp; omega
  have hdl : (l.drop n).length = l.length - n := by simp
  refine wp_region_any hm ?_
  have H := wpAnyQ_lex (P := P) (C := fun w' => ∃ p : Regrown, w' = grow (redrawn w p.d) p.os) (md := .any) hlex.1 (l.take n) 0 (Array.replicate (l.take n).toArray.size false) a (by simp) (by simpa using hlex.2) h
  have inv0 : HeadInv .any l.toArray n (padB (Array.replicate n false) (l.length - n)) := by
    have e : padB (Array.replicate n false) (l.length - n) = Array.replicate l.toArray.size false := by
      apply Array.ext'
      simp only [padB, Array.toList_append, Array.toList_replicate, List.replicate_append_replicate, List.size_toArray]
      congr 1; omega
    rw [e]
    exact ⟨by simp, fun j oj _ hl => (by rw [getD_replicate_false] at hl; cases hl), fun t _ ht => getD_in (by simpa using ht) (getD_replicate_false _ _)⟩
  have hsz : (l.take n).toArray.size = n := by simp; omega
  rw [hsz, htl] at H
  have hl0 : leftN (Array.replicate n false) = n := by simp [leftN]
  have S := head_sim (P := P) (md := .any) (C := fun w' => ∃ p : Regrown, w' = grow (redrawn w p.d) p.os) (Q := Q) (Qh := fun a' => ∀ w', (∃ p : Regrown, w' = grow (redrawn w p.d) p.os) → wpList P l.toArray Q (l.drop n) a' w') hd hn hs hc
    (fun a' w' hw' hq => by
      have := wpAny_of_seq (P := P) (md := .any) (ops := l.toArray) (Q' := Q) (l.drop n) n (padB (Array.replicate n true) (l.length - n)) a' w' (fun j => by simp [List.getElem?_drop]) (by rw [hdl]; exact hseq) (hq w' hw')
      rwa [hdl] at this)
    n (Array.replicate n false) a { w with drawn := w.drawn + 1 } (by simp) hl0 inv0 ⟨⟨w.drawn + 1, #[]⟩, by rw [grow_empty]; rfl⟩ H
  have e0 : padB (Array.replicate n false) (l.length - n) = Array.replicate l.toArray.size false := by
    apply Array.ext'
    simp only [padB, Array.toList_append, Array.toList_replicate, List.replicate_append_replicate, List.size_toArray]
    congr 1; omega
  rw [e0, show n + (l.length - n) = l.toArray.size by simp; omega] at S
  exact S

end
end

/-
  A law on a region that draws its order: among operations that make memory stand others that only read what was there before; these may be taken first. No program is named here.
-/
section
open Go.Sort

section
variable {P : Program} {md : Region.Mode} {ops : Array Oper} {C : World → Prop} {n : Nat} {L : Array Bool → Act → World → Prop}

/-- An operation that only hands back a value. -/
def valB (o : Oper) : Bool := match o.op with
  | .move _ | .assign _ | .load _ _ | .fieldAddr _ _ _ | .indexAddr _ _ _ | .slice _ _ _ _ _ | .index _ _ _ | .binOp _ _ _ _ _ | .build _ _ => true
  | .call { callee := .builtin .len, .. } => true
  | _ => false

theorem then_value {r : Result Value} {f : FuncId} {args : Array Value} {w : World} : r.andThen (fun a w' => .ok (Next.value a) w') ≠ .ok (.enter f args) w := by
  cases r <;> simp [Result.andThen]

theorem v_ne (s : Sem Value) (f : FuncId) (args : Array Value) (w w' : World) : Sem.run P (do let x ← s; pure (Next.value x)) w ≠ .ok (.enter f args) w' := by
  simp only [Sem.run_bind, Sem.run_pure]; exact then_value

theorem val_only {o : Oper} (h : valB o = true) (ρ : Operand → Value) (w : World) (f : FuncId) (args : Array Value) (w' : World) : (execOp ρ o).run P w ≠ .ok (.enter f args) w' := by
  unfold valB at h
  unfold execOp
  split at h <;> rename_i heq
  all_goals (try (cases h; done))
  all_goals rw [heq]
  all_goals first
    | exact v_ne _ _ _ _ _
    | (intro e; cases e)

theorem val_of_quiet {o : Oper} (h : valB o = true) {a : Act} {v : Value} (hq : ∀ w, C w → o.quietAt P a C w v) (hs : ∀ w, C w → ∀ w', (execOp a.eval o).run P w ≠ .ok .skip w') : ∀ w, C w → (execOp a.eval o).run P w = .ok (.value v) w := by
  intro w hw
  have h1 := hq w hw
  unfold Oper.quietAt at h1
  have h2 := val_only (P := P) h a.eval w
  have h3 := hs w hw
  generalize (execOp a.eval o).run P w = r at *
  cases r with
  | halt x w' => simp only [Oper.quietUpon] at h1
  | ok m w' =>
    cases m with
    | value u => simp only [Oper.quietUpon] at h1; rw [h1.1, h1.2]
    | skip => exact absurd rfl (h3 w')
    | enter f args => exact absurd rfl (h2 f args w')
    | _ => simp only [Oper.quietUpon] at h1

theorem then_skip {r : Result Value} {w : World} : r.andThen (fun a w' => .ok (Next.value a) w') ≠ .ok .skip w := by
  cases r <;> simp [Result.andThen]
theorem v_ns (s : Sem Value) (w w' : World) : Sem.run P (do let x ← s; pure (Next.value x)) w ≠ .ok .skip w' := by
  simp only [Sem.run_bind, Sem.run_pure]; exact then_skip
theorem val_skip {o : Oper} (h : valB o = true) (ρ : Operand → Value) (w w' : World) : (execOp ρ o).run P w ≠ .ok .skip w' := by
  unfold valB at h
  unfold execOp
  split at h <;> rename_i heq
  all_goals (try (cases h; done))
  all_goals rw [heq]
  all_goals first
    | exact v_ns _ _ _
    | (intro e; cases e)

/-- Operation i hands back a value. -/
def stepC (P : Program) (ops : Array Oper) (i : Nat) (K : Act → World → Prop) (a : Act) (w : World) : Prop :=
  ∃ o, ops[i]? = some o ∧ o.guard = none ∧ ∃ u w', (execOp a.eval o).run P w = .ok (.value u) w' ∧ K (a.put o.dst u) w'

/-- Operation i calls a function that comes back. -/
def stepE (P : Program) (ops : Array Oper) (i : Nat) (K : Act → World → Prop) (a : Act) (w : World) : Prop :=
  ∃ o, ops[i]? = some o ∧ o.guard = none ∧ ∃ f args, (execOp a.eval o).run P w = .ok (.enter f args) w ∧ Calls P f args w (fun e w'' => ∃ u, e = .returned u ∧ K (a.put o.dst u) w'')

/-- Whatever order is picked, as long as the head is not done. -/
def anyC (P : Program) (md : Region.Mode) (ops : Array Oper) (C : World → Prop) (n : Nat) (L : Array Bool → Act → World → Prop) : Nat → Array Bool → Act → World → Prop
  | 0, listed, a, w => L listed a w
  | f + 1, listed, a, w => Region.ready md ops listed ≠ [] ∧ ∀ i ∈ Region.ready md ops listed, i < n ∧ (stepC P ops i (fun a' w' => C w' ∧ anyC P md ops C n L f (listed.setIfInBounds i true) a' w') a w ∨ stepE P ops i (fun a' w' => C w' ∧ anyC P md ops C n L f (listed.setIfInBounds i true) a' w') a w)

theorem any_of_C {Q : Exit → Act → World → Prop} {g : Nat} (hL : ∀ listed a w, L listed a w → wpAny P md ops Q g listed a w) :
    ∀ (f : Nat) (listed : Array Bool) (a : Act) (w : World), anyC P md ops C n L f listed a w → wpAny P md ops Q (f + g) listed a w
  | 0, listed, a, w, h => by rw [Nat.zero_add]; exact hL _ _ _ h
  | f + 1, listed, a, w, h => by
    rw [show f + 1 + g = (f + g) + 1 by omega]
    refine ⟨fun h0 => absurd h0 h.1, fun i hi => ?_⟩
    rcases (h.2 i hi).2 with ⟨o, ho, hg, u, w', hr, _, hk⟩ | ⟨o, ho, hg, fn, args, hr, hk⟩
    · unfold wpOp
      simp only [ho, wanted_none hg, if_true]
      refine .inl ?_
      unfold Oper.wp
      rw [hr]
      exact any_of_C hL f _ _ _ hk
    · unfold wpOp
      simp only [ho, wanted_none hg, if_true]
      refine .inl ?_
      unfold Oper.wp
      rw [hr]
      exact hk.mono fun e w'' ⟨u, he, _, hk'⟩ => by subst he; exact any_of_C hL f _ _ _ hk'

theorem anyC_first {i : Nat} {oi : Oper} {v : Value} (hi : ops[i]? = some oi) (hgi : oi.guard = none) (hsel : Region.noSelect ops = true) (hs : Region.sinkB md ops n = true) (hc : Region.chainB md ops n = true) (hn : n < ops.size) (hin : i < n)
    (hdone : ∀ listed a w, L listed a w → ∀ j ∈ Region.ready md ops listed, n ≤ j) :
    ∀ (f : Nat) (listed : Array Bool) (a : Act) (w : World), C w → HeadInv md ops n listed →
      (∀ j oj, ops[j]? = some oj → j ≠ i → listed.getD j true = false → (∀ e ∈ oj.after, Region.binds md e = true → e.on ≠ i) → oi.apart ops oj = true) →
      i ∈ Region.ready md ops listed → (∀ w, C w → (execOp a.eval oi).run P w = .ok (.value v) w) →
      anyC P md ops C n L f (listed.setIfInBounds i true) (a.put oi.dst v) w → anyC P md ops C n L (f + 1) listed a w := by
  intro f
  induction f with
  | zero =>
    intro listed a w hw inv _ hr hy H
    refine ⟨(fun h => by rw [h] at hr; cases hr), fun j hj => ?_⟩
    by_cases hji : j = i
    · subst hji; exact ⟨hin, .inl ⟨oi, hi, hgi, v, w, hy w hw, hw, H⟩⟩
    · have h1 := hdone _ _ _ H j (ready_mono hj hji)
      exact absurd hj (tail_waits hs hc hn inv _ i rfl hin (mem_ready.1 hr).1 j h1)
  | succ f ih =>
    intro listed a w hw inv hfree hr hy H
    refine ⟨(fun h => by rw [h] at hr; cases hr), fun j hj => ?_⟩
    by_cases hji : j = i
    · subst hji; exact ⟨hin, .inl ⟨oi, hi, hgi, v, w, hy w hw, hw, H⟩⟩
    · obtain ⟨hjn, hstep⟩ := H.2 j (ready_mono hj hji)
      obtain ⟨hjun, oj, hoj, hall⟩ := mem_ready.1 hj
      have hiun := (mem_ready.1 hr).1
      have hnot : ∀ e ∈ oj.after, Region.binds md e = true → e.on ≠ i := fun e he hb heq => by
        have h1 := hall e he hb
        rw [heq, getD_both hiun] at h1
        cases h1
      obtain ⟨h1, h2, h3⟩ := Oper.apart_spec (hfree j oj hoj hji hjun hnot)
      have hex : execOp (a.put oi.dst v).eval oj = execOp a.eval oj := execOp_put (ops := ops) oj (fun cs b => Region.noSelect_spec hsel j oj cs b hoj) a oi.dst v h1
      have next : ∀ u w', C w' → anyC P md ops C n L f ((listed.setIfInBounds i true).setIfInBounds j true) ((a.put oi.dst v).put oj.dst u) w' → anyC P md ops C n L (f + 1) (listed.setIfInBounds j true) (a.put oj.dst u) w' := by
        intro u w' hC' hrest
        refine ih (listed.setIfInBounds j true) (a.put oj.dst u) w' hC' (inv.set hj hjn) ?_ (ready_mono hr (Ne.symm hji)) ?_ ?_
        · intro k ok hk hki hun hno
          refine hfree k ok hk hki ?_ hno
          by_cases hjk : j = k
          · subst hjk; exact hjun
          · rw [getD_set_ne true hjk] at hun; exact hun
        · intro w1 hw1
          rw [execOp_put (ops := ops) oi (fun cs b => Region.noSelect_spec hsel i oi cs b hi) a oj.dst u h3]
          exact hy w1 hw1
        · rw [Array.setIfInBounds_comm _ _ hji, ← Act.put_comm a v u h2]
          exact hrest
      refine ⟨hjn, ?_⟩
      rcases hstep with ⟨oj', hoj', hgj, u, w', hrun, hC', hrest⟩ | ⟨oj', hoj', hgj, fn, args, hrun, hrest⟩
      · obtain rfl := Option.some.inj (hoj.symm.trans hoj')
        exact .inl ⟨oj, hoj, hgj, u, w', by rw [← hex]; exact hrun, hC', next u w' hC' hrest⟩
      · obtain rfl := Option.some.inj (hoj.symm.trans hoj')
        exact .inr ⟨oj, hoj, hgj, fn, args, by rw [← hex]; exact hrun, hrest.mono fun e w'' ⟨u, he, hC', hk⟩ => ⟨u, he, hC', next u w'' hC' hk⟩⟩

/-- The places of the quiet ones, taken in this order; what is listed then. -/
def mixB (md : Region.Mode) (ops : Array Oper) (n : Nat) : List Nat → Array Bool → Bool
  | [], _ => true
  | k :: ks, listed => (Region.ready md ops listed).contains k && Region.free md ops listed k && decide (k < n) && (match ops[k]? with | some o => valB o && o.guard.isNone | none => false) && mixB md ops n ks (listed.setIfInBounds k true)
def listAll (ks : List Nat) (listed : Array Bool) : Array Bool := ks.foldl (fun l k => l.setIfInBounds k true) listed

theorem anyC_lex (hsel : Region.noSelect ops = true) (hs : Region.sinkB md ops n = true) (hc : Region.chainB md ops n = true) (hn : n < ops.size) (hdone : ∀ listed a w, L listed a w → ∀ j ∈ Region.ready md ops listed, n ≤ j) (g : Nat) (w : World) (hw : C w) :
    ∀ (ks : List Nat) (os : List Oper) (listed : Array Bool) (a : Act), os.map some = ks.map (ops[·]?) → HeadInv md ops n listed → mixB md ops n ks listed = true →
      wpQuiet P ops C (fun a' => anyC P md ops C n L g (listAll ks listed) a' w) os a → anyC P md ops C n L (ks.length + g) listed a w
  | [], os, listed, a, he, _, _, h => by
    have : os = [] := by simpa using he
    subst this
    rw [List.length_nil, Nat.zero_add]; exact h
  | k :: ks, os, listed, a, he, inv, hB, h => by
    match os, he with
    | o :: os, he =>
      simp only [List.map_cons, List.cons.injEq] at he
      obtain ⟨ho, he⟩ := he
      simp only [mixB, ← ho, Bool.and_eq_true, decide_eq_true_eq, Option.isNone_iff_eq_none] at hB
      obtain ⟨⟨⟨⟨hr, hf⟩, hk⟩, hv, hg⟩, hB'⟩ := hB
      have hr' : k ∈ Region.ready md ops listed := by simpa using hr
      simp only [wpQuiet, wanted_none hg, if_true] at h
      obtain ⟨v, hq, hnext⟩ := h
      rw [List.length_cons, show ks.length + 1 + g = (ks.length + g) + 1 by omega]
      exact anyC_first ho.symm hg hsel hs hc hn hk hdone _ listed a w hw inv (Region.free_spec ho.symm hf) hr' (val_of_quiet hv hq (fun w _ w' => val_skip hv a.eval w w'))
        (anyC_lex hsel hs hc hn hdone g w hw ks os _ _ he (inv.set hr' hk) hB' hnext)

/-- All that is asked of the region's text. -/
def mixTailB (l : List Oper) (n : Nat) (ks : List Nat) : Bool :=
  Region.noSelect l.toArray && decide (n < l.length) && decide (ks.length ≤ n) && Region.sinkB .any l.toArray n && Region.chainB .any l.toArray n && mixB .any l.toArray n ks (Array.replicate l.length false)

/-- What stands behind the head. -/
def tailC (P : Program) (Q : Exit → Act → World → Prop) (l : List Oper) (n : Nat) (listed : Array Bool) (a : Act) (w : World) : Prop :=
  Region.seqB .any l.toArray (l.length - n) n listed = true ∧ wpList P l.toArray Q (l.drop n) a w

theorem wp_region_mixed {id : Nat} {Q : Exit → Act → World → Prop} {a : Act} {w : World} {l : List Oper} (n : Nat) (ks : List Nat) (os : List Oper) (hm : P.follows .mixedOrders = true) (hB : mixTailB l n ks = true) (hos : os.map some = ks.map (l.toArray[·]?))
    (h : wpQuiet P l.toArray (fun w' => ∃ p : Regrown, w' = grow (redrawn w p.d) p.os) (fun a' => anyC P .any l.toArray (fun w' => ∃ p : Regrown, w' = grow (redrawn w p.d) p.os) n (tailC P Q l n) (n - ks.length) (listAll ks (Array.replicate l.length false)) a' w.drew) os a) :
    (Code.region id l.toArray true).wp P Q a w := by
  simp only [mixTailB, Bool.and_eq_true, decide_eq_true_eq] at hB
  obtain ⟨⟨⟨⟨⟨hsel, hn⟩, hkn⟩, hs⟩, hc⟩, hmix⟩ := hB
  have hn' : n < l.toArray.size := by simpa using hn
  have hdl : (l.drop n).length = l.length - n := by simp
  have inv0 : HeadInv .any l.toArray n (Array.replicate l.length false) :=
    ⟨by simp, fun j oj _ hl => (by rw [getD_replicate_false] at hl; cases hl), fun t _ ht => getD_in (by simpa using ht) (getD_replicate_false _ _)⟩
  have H := anyC_lex (P := P) (md := .any) (L := tailC P Q l n) hsel hs hc hn' (fun listed a w hL => seqB_ready hL.1) (n - ks.length) w.drew ⟨⟨w.drawn + 1, #[]⟩, by rw [grow_empty]; rfl⟩ ks os _ a hos inv0 hmix h
  have G := any_of_C (Q := Q) (g := l.length - n) (fun listed a' w' hL => by
    have := wpAny_of_seq (P := P) (md := .any) (ops := l.toArray) (Q' := Q) (l.drop n) n listed a' w' (fun j => by simp [List.getElem?_drop]) (by rw [hdl]; exact hL.1) hL.2
    rwa [hdl] at this) _ _ _ _ H
  rw [show ks.length + (n - ks.length) + (l.length - n) = l.toArray.size by simp; omega] at G
  refine wp_region_any hm ?_
  simpa using G

theorem mix_ops {l : List Oper} {n : Nat} : ∀ (ks : List Nat) (listed : Array Bool), mixB md l.toArray n ks listed = true → (ks.filterMap fun k => l[k]?).map some = ks.map (l.toArray[·]?)
  | [], _, _ => rfl
  | k :: ks, listed, h => by
    simp only [mixB, Bool.and_eq_true] at h
    obtain ⟨⟨_, hv⟩, h'⟩ := h
    have ih := mix_ops ks _ h'
    cases ho : l[k]? with
    | none => simp [ho] at hv
    | some o =>
      rw [List.filterMap_cons]
      simp only [ho, List.map_cons, ih]
      simp [ho]

/-- The same, the quiet ones named by their places. -/
theorem wp_region_mix {id : Nat} {Q : Exit → Act → World → Prop} {a : Act} {w : World} {l : List Oper} (n : Nat) (ks : List Nat) (hm : P.follows .mixedOrders = true) (hB : mixTailB l n ks = true)
    (h : wpQuiet P l.toArray (fun w' => ∃ p : Regrown, w' = grow (redrawn w p.d) p.os) (fun a' => anyC P .any l.toArray (fun w' => ∃ p : Regrown, w' = grow (redrawn w p.d) p.os) n (tailC P Q l n) (n - ks.length) (listAll ks (Array.replicate l.length false)) a' w.drew) (ks.filterMap fun k => l[k]?) a) :
    (Code.region id l.toArray true).wp P Q a w := by
  refine wp_region_mixed n ks _ hm hB ?_ h
  simp only [mixTailB, Bool.and_eq_true] at hB
  exact mix_ops ks _ hB.2

/-- One state of the rest: what may come up now. -/
theorem anyC_step {f : Nat} {listed : Array Bool} {a : Act} {w : World} (rs : List Nat) (hr : Region.ready md ops listed = rs) (h0 : rs ≠ []) (h : ∀ i ∈ rs, i < n ∧ stepC P ops i (fun a' w' => C w' ∧ anyC P md ops C n L f (listed.setIfInBounds i true) a' w') a w) : anyC P md ops C n L (f + 1) listed a w := by
  subst hr; exact ⟨h0, fun i hi => ⟨(h i hi).1, .inl (h i hi).2⟩⟩
/-- The same, where one alone may come up, and it calls a function. -/
theorem anyC_call {f : Nat} {listed : Array Bool} {a : Act} {w : World} (i : Nat) (hr : Region.ready md ops listed = [i]) (hi : i < n) (h : stepE P ops i (fun a' w' => C w' ∧ anyC P md ops C n L f (listed.setIfInBounds i true) a' w') a w) : anyC P md ops C n L (f + 1) listed a w := by
  refine ⟨by rw [hr]; simp, fun j hj => ?_⟩
  rw [hr] at hj
  obtain rfl := List.mem_singleton.1 hj
  exact ⟨hi, .inr h⟩

end
end

/-
  A law on the statement 'append(append(append([]T{}, xs[:k]...), x), xs[k:]...)' in a region that draws its order: whatever order, a new list of the call's own. No program is named here.
-/
section
open Go.RowKit Go.Sort

section
variable {P : Program}

/-- Where the cells lie that are put in: nowhere, if there are none. -/
def Src (w : World) (v : Value) (m size : Nat) (news : List Value) : Prop :=
  news.length = m * size ∧ ((v = .slice none 0 0 ∧ m = 0) ∨ ∃ ad c, v = .slice (some ad) m c ∧ ∀ (j : Nat) (u : Value), news[j]? = some u → w.cell? (ad.add j) = some u)
theorem Src.below {w w' : World} {v : Value} {m size : Nat} {news : List Value} (h : Src w v m size news) (hb : Below w.heap.size w w') : Src w' v m size news := by
  refine ⟨h.1, ?_⟩
  rcases h.2 with h | ⟨ad, c, hv, hc⟩
  · exact .inl h
  · exact .inr ⟨ad, c, hv, fun j u hj => (hb.cell (World.block_lt_of_cell? w _ (hc j u hj))).trans (hc j u hj)⟩
theorem Src.grown {w w' : World} {v : Value} {m size : Nat} {news : List Value} {row : Option Nat} (h : Src w v m size news) (hg : w.grownBy w' row) (hne : ∀ ad n c, v = .slice (some ad) n c → some ad.block ≠ row) : Src w' v m size news := by
  refine ⟨h.1, ?_⟩
  rcases h.2 with h | ⟨ad, c, hv, hc⟩
  · exact .inl h
  · exact .inr ⟨ad, c, hv, fun j u hj => hg.cell (hc j u hj) (by have := hne ad m c hv; unfold Addr.add; split <;> exact this)⟩

/-- What is left of a list behind its first k. -/
theorem Src.tail {w : World} {A A' : Addr} {c0 k m c size : Nat} {news : List Value} (hl : news.length = m * size) (h0 : c0 = k → m = 0) (h : c0 ≠ k → ∀ (j : Nat) (u : Value), news[j]? = some u → w.cell? (A'.add j) = some u) : Src w (.slice (if c0 = k then some A else some A') m c) m size news := by
  refine ⟨hl, .inr ?_⟩
  by_cases e : c0 = k
  · rw [if_pos e]
    refine ⟨A, c, rfl, fun j u hj => ?_⟩
    rw [h0 e, Nat.zero_mul] at hl
    rw [List.eq_nil_of_length_eq_zero hl] at hj
    simp at hj
  · rw [if_neg e]; exact ⟨A', c, rfl, h e⟩
theorem add_at (b o j : Nat) : (⟨b, o, none⟩ : Addr).add j = ⟨b, o + j, none⟩ := by
  unfold Addr.add
  split
  · rename_i h; subst h; rfl
  · rfl

/-- What is asked of the elements' type. -/
structure ElT (P : Program) (t e : TypeId) (size bytes : Nat) : Prop where
  ht : P.underlying t = some (.slice e)
  info : ∃ i z, P.info? e = some i ∧ i.zero = some z ∧ i.size = size ∧ i.bytes = bytes ∧ z.cells.size = size
  pos : 0 < size

theorem exec_append {t e : TypeId} {size bytes base n m : Nat} {w : World} {o : Oper} {a : Act} {v sv : Value} {xs news : List Value} (T : ElT P t e size bytes) (s x : Operand) (ho : o.op = .call { callee := .builtin .append, args := #[s, x], argTypes := #[t, t] })
    (hs : a.eval s = v) (hx : a.eval x = sv) (hown : w.ownsRow base e size v n xs) (hsrc : Src w sv m size news) (h1 : ∀ u ∈ news, u.oneCell' = true) (h63 : n + m ≤ maxLen) (hbytes : (n + m) * bytes ≤ 140737488355328) (hbase : base ≤ w.heap.size) :
    ∃ v' w', (execOp a.eval o).run P w = .ok (.value v') w' ∧ w'.ownsRow base e size v' (n + m) (xs ++ news) ∧ w.grownBy w' v.ownBlock := by
  obtain ⟨i, z, hi, hz, h2, h3, h4⟩ := T.info
  rcases hsrc with ⟨hl, ⟨rfl, rfl⟩ | ⟨ad, c, rfl, hc⟩⟩
  · have hn : news = [] := List.eq_nil_of_length_eq_zero (by simpa using hl)
    subst hn
    have hr := run_append_owned_none (P := P) (w := w) base t o.type e i size T.ht hi v n xs hown
    refine ⟨v, w, ?_, by simpa using hown, ⟨rfl, rfl, rfl, Nat.le_refl _, fun _ _ _ => rfl⟩⟩
    unfold execOp
    simp only [ho, resolve, invoke, builtin, Sem.run_bind, Sem.run_pure, Result.andThen_ok, List.map_toArray, List.map_cons, List.map_nil, hs, hx, hr]
  · obtain ⟨v', w', hr, q1, q2, _⟩ := run_append_own (P := P) w base t o.type e i z size bytes T.ht hi hz h2 h3 h4 T.pos v n xs hown ad m c news hl hc h1 h63 hbytes hbase
    refine ⟨v', w', ?_, q1, q2⟩
    unfold execOp
    simp only [ho, resolve, invoke, builtin, Sem.run_bind, Sem.run_pure, Result.andThen_ok, List.map_toArray, List.map_cons, List.map_nil, hs, hx, hr]

theorem eval_at {a : Act} {d : Nat} {v : Value} (h : d < a.tmps.size) : (a.put (some d) v).eval (.tmp d) = v := by
  simp [Act.eval, Act.put, h]
theorem eval_ne {a : Act} {d k : Nat} {v : Value} (h : k ≠ d) : (a.put (some d) v).eval (.tmp k) = a.eval (.tmp k) :=
  Act.eval_put fun d' hd => by cases hd; simpa using h
theorem put_size (a : Act) (d : Option Nat) (v : Value) : (a.put d v).tmps.size = a.tmps.size := by
  cases d <;> simp [Act.put]

/-- The five operations of the statement that make memory, their slots. -/
structure Ins (P : Program) (md : Region.Mode) (ops : Array Oper) (n : Nat) (t e : TypeId) (listed : Array Bool) (i0 i1 i2 i3 i4 d0 d1 d2 d3 d4 k1 k2 kx : Nat) (X : Value) where
  o0 : Oper
  o1 : Oper
  o2 : Oper
  o3 : Oper
  o4 : Oper
  at0 : ops[i0]? = some o0 ∧ o0.guard = none ∧ o0.dst = some d0 ∧ i0 < n
  at1 : ops[i1]? = some o1 ∧ o1.guard = none ∧ o1.dst = some d1 ∧ i1 < n
  at2 : ops[i2]? = some o2 ∧ o2.guard = none ∧ o2.dst = some d2 ∧ i2 < n
  at3 : ops[i3]? = some o3 ∧ o3.guard = none ∧ o3.dst = some d3 ∧ i3 < n
  at4 : ops[i4]? = some o4 ∧ o4.guard = none ∧ o4.dst = some d4 ∧ i4 < n
  op1 : o1.op = .call { callee := .builtin .append, args := #[.tmp d0, .tmp k1], argTypes := #[t, t] }
  op3 : o3.op = .call { callee := .builtin .append, args := #[.tmp d1, .tmp d2], argTypes := #[t, t] }
  op4 : o4.op = .call { callee := .builtin .append, args := #[.tmp d3, .tmp k2], argTypes := #[t, t] }
  run0 : ∀ (b : Act) (w : World), (execOp b.eval o0).run P w = .ok (.value (.slice (some ⟨w.heap.size, 0, none⟩) 0 0)) (w.alloc (.cells #[] e))
  run2 : ∀ (b : Act), b.eval (.tmp kx) = X → ∀ w : World, (execOp b.eval o2).run P w = .ok (.value (.slice (some ⟨w.heap.size, 0, none⟩) 1 1)) (w.alloc (.cells X.cells e))
  ne : [d0, d1, d2, d3, d4, k1, k2, kx].Nodup
  ni : [i0, i1, i2, i3, i4].Nodup
  r : Region.ready md ops listed = [i0, i2]
  r0 : Region.ready md ops (listed.setIfInBounds i0 true) = [i1, i2]
  r2 : Region.ready md ops (listed.setIfInBounds i2 true) = [i0]
  r01 : Region.ready md ops ((listed.setIfInBounds i0 true).setIfInBounds i1 true) = [i2]
  r02 : Region.ready md ops ((listed.setIfInBounds i0 true).setIfInBounds i2 true) = [i1]
  r3 : Region.ready md ops (((listed.setIfInBounds i0 true).setIfInBounds i1 true).setIfInBounds i2 true) = [i3]
  r4 : Region.ready md ops ((((listed.setIfInBounds i0 true).setIfInBounds i1 true).setIfInBounds i2 true).setIfInBounds i3 true) = [i4]

theorem one_list {i : Nat} {p : Nat → Prop} (h : p i) : ∀ j ∈ [i], p j := fun j hj => by
  obtain rfl := List.mem_singleton.1 hj; exact h
theorem two_list {i i' : Nat} {p : Nat → Prop} (h : p i) (h' : p i') : ∀ j ∈ [i, i'], p j := fun j hj => by
  simp only [List.mem_cons, List.not_mem_nil, or_false] at hj
  rcases hj with rfl | rfl
  · exact h
  · exact h'

/-- A call that hands back two, each taken out. -/
theorem call2 {md : Region.Mode} {ops : Array Oper} {C : World → Prop} {n : Nat} {L : Array Bool → Act → World → Prop} {listed : Array Bool} {i e1 e2 dc x1 x2 : Nat} {oc o1 o2 : Oper} {a : Act} {w : World} {fn : FuncId} {args : Array Value} {Post : Value → Value → World → Prop}
    (hc : ops[i]? = some oc ∧ oc.guard = none ∧ oc.dst = some dc ∧ i < n) (h1 : ops[e1]? = some o1 ∧ o1.guard = none ∧ o1.dst = some x1 ∧ e1 < n) (h2 : ops[e2]? = some o2 ∧ o2.guard = none ∧ o2.dst = some x2 ∧ e2 < n)
    (ne : dc ≠ x1 ∧ dc ≠ x2 ∧ x1 ≠ x2 ∧ e1 ≠ e2) (hd : dc < a.tmps.size)
    (r0 : Region.ready md ops listed = [i]) (r1 : Region.ready md ops (listed.setIfInBounds i true) = [e1, e2]) (r2 : Region.ready md ops ((listed.setIfInBounds i true).setIfInBounds e1 true) = [e2]) (r3 : Region.ready md ops ((listed.setIfInBounds i true).setIfInBounds e2 true) = [e1])
    (run : (execOp a.eval oc).run P w = .ok (.enter fn args) w) (con : Calls P fn args w fun e w' => ∃ p q, e = .returned (.tuple #[p, q]) ∧ C w' ∧ Post p q w')
    (ex1 : ∀ (b : Act) (p q : Value) (u : World), b.eval (.tmp dc) = .tuple #[p, q] → (execOp b.eval o1).run P u = .ok (.value p) u) (ex2 : ∀ (b : Act) (p q : Value) (u : World), b.eval (.tmp dc) = .tuple #[p, q] → (execOp b.eval o2).run P u = .ok (.value q) u)
    (K : ∀ p q w', Post p q w' → C w' → L (((listed.setIfInBounds i true).setIfInBounds e1 true).setIfInBounds e2 true) (((a.put (some dc) (.tuple #[p, q])).put (some x1) p).put (some x2) q) w') :
    anyC P md ops C n L 3 listed a w := by
  obtain ⟨hc1, hc2, hc3, hc4⟩ := hc
  obtain ⟨h11, h12, h13, h14⟩ := h1
  obtain ⟨h21, h22, h23, h24⟩ := h2
  obtain ⟨n1, n2, n3, n4⟩ := ne
  refine anyC_call i r0 hc4 ⟨oc, hc1, hc2, fn, args, run, con.mono fun e w' ⟨p, q, he, hC, hp⟩ => ⟨_, he, hC, ?_⟩⟩
  rw [hc3]
  have E0 : (a.put (some dc) (.tuple #[p, q])).eval (.tmp dc) = .tuple #[p, q] := eval_at hd
  refine anyC_step _ r1 (by simp) (two_list ⟨h14, o1, h11, h12, p, w', ex1 _ p q w' E0, hC, ?_⟩ ⟨h24, o2, h21, h22, q, w', ex2 _ p q w' E0, hC, ?_⟩)
  · rw [h13]
    refine anyC_step _ r2 (by simp) (one_list ⟨h24, o2, h21, h22, q, w', ex2 _ p q w' (by rw [eval_ne n1]; exact E0), hC, ?_⟩)
    rw [h23]; exact K p q w' hp hC
  · rw [h23]
    refine anyC_step _ r3 (by simp) (one_list ⟨h14, o1, h11, h12, p, w', ex1 _ p q w' (by rw [eval_ne n2]; exact E0), hC, ?_⟩)
    rw [h13, Array.setIfInBounds_comm _ _ (Ne.symm n4), Act.put_comm _ _ _ (fun d hd => by cases hd; simpa using n3)]
    exact K p q w' hp hC

/-- The class of worlds in which all that was there stands. -/
def Kept (W : World) : World → Prop := fun w' => ∃ p : Regrown, w' = grow (redrawn W p.d) p.os

set_option maxHeartbeats 1000000 in
theorem ins3 {md : Region.Mode} {ops : Array Oper} {n : Nat} {L : Array Bool → Act → World → Prop} {t e : TypeId} {size bytes : Nat} {listed : Array Bool} {i0 i1 i2 i3 i4 d0 d1 d2 d3 d4 k1 k2 kx : Nat}
    {X : Value} (I : Ins P md ops n t e listed i0 i1 i2 i3 i4 d0 d1 d2 d3 d4 k1 k2 kx X) (T : ElT P t e size bytes) {W : World} {a : Act} (ha : d0 < a.tmps.size ∧ d1 < a.tmps.size ∧ d2 < a.tmps.size ∧ d3 < a.tmps.size ∧ d4 < a.tmps.size)
    {S1 S2 : Value} {m1 m2 : Nat} {c1 c2 : List Value} (e1 : a.eval (.tmp k1) = S1) (e2 : a.eval (.tmp k2) = S2) (ex : a.eval (.tmp kx) = X) (s1 : Src W S1 m1 size c1) (s2 : Src W S2 m2 size c2) (hx : X.cells.size = size)
    (u1 : ∀ u ∈ c1, u.oneCell' = true) (u2 : ∀ u ∈ c2, u.oneCell' = true) (ux : ∀ u ∈ X.cells.toList, u.oneCell' = true) (hb : (m1 + 1 + m2) * bytes ≤ 140737488355328) (hm : m1 + 1 + m2 ≤ maxLen)
    (K : ∀ v0 v1 v2 v3 v4 w', w'.ownsRow W.heap.size e size v4 (m1 + 1 + m2) (c1 ++ X.cells.toList ++ c2) → Below W.heap.size W w' →
      L (((((listed.setIfInBounds i0 true).setIfInBounds i1 true).setIfInBounds i2 true).setIfInBounds i3 true).setIfInBounds i4 true) (((((a.put (some d0) v0).put (some d1) v1).put (some d2) v2).put (some d3) v3).put (some d4) v4) w') :
    anyC P md ops (Kept W) n L 5 listed a W.drew := by
  obtain ⟨h0, g0, t0, n0⟩ := I.at0
  obtain ⟨h1, g1, t1, n1⟩ := I.at1
  obtain ⟨h2, g2, t2, n2⟩ := I.at2
  obtain ⟨h3, g3, t3, n3⟩ := I.at3
  obtain ⟨h4, g4, t4, n4⟩ := I.at4
  obtain ⟨a0, a1, a2, a3, a4⟩ := ha
  have nd := I.ne
  simp only [List.nodup_cons, List.mem_cons, List.not_mem_nil, or_false, not_or, not_false_eq_true, List.nodup_nil, and_true] at nd
  obtain ⟨⟨d01, d02, d03, d04, d0k1, d0k2, d0x⟩, ⟨d12, d13, d14, d1k1, d1k2, d1x⟩, ⟨d23, d24, d2k1, d2k2, d2x⟩, ⟨d34, d3k1, d3k2, d3x⟩, _⟩ := nd
  have nn := I.ni
  simp only [List.nodup_cons, List.mem_cons, List.not_mem_nil, or_false, not_or, not_false_eq_true, List.nodup_nil, and_true] at nn
  obtain ⟨⟨i01, i02, _, _⟩, ⟨i12, _, _⟩, _⟩ := nn
  have hm1 : m1 * bytes ≤ 140737488355328 := Nat.le_trans (Nat.mul_le_mul_right _ (by omega)) hb
  have hm2 : (m1 + 1) * bytes ≤ 140737488355328 := Nat.le_trans (Nat.mul_le_mul_right _ (by omega)) hb
  have kept : ∀ {w'}, Below W.heap.size W w' → Kept W w' := fun h => regrown_of_below h
  have B0 : Below W.heap.size W W.drew := (Below.refl _ _).drew
  -- the last two, from the state in which the first three are done
  have last : ∀ (v0 v1 v2 : Value) (w : World), w.ownsRow W.heap.size e size v1 m1 c1 → Src w v2 1 size X.cells.toList → Below W.heap.size W w →
      anyC P md ops (Kept W) n L 2 (((listed.setIfInBounds i0 true).setIfInBounds i1 true).setIfInBounds i2 true) (((a.put (some d0) v0).put (some d1) v1).put (some d2) v2) w := by
    intro v0 v1 v2 w ho hs hw
    refine anyC_step _ I.r3 (by simp) (one_list ⟨n3, I.o3, h3, g3, ?_⟩)
    have E1 : (((a.put (some d0) v0).put (some d1) v1).put (some d2) v2).eval (.tmp d1) = v1 := by
      rw [eval_ne d12, eval_at (by simpa [put_size] using a1)]
    have E2 : (((a.put (some d0) v0).put (some d1) v1).put (some d2) v2).eval (.tmp d2) = v2 := eval_at (by simpa [put_size] using a2)
    obtain ⟨v3, w3, hr3, ho3, hg3⟩ := exec_append T _ _ I.op3 E1 E2 ho hs ux (by omega) hm2 hw.size
    have hw3 : Below W.heap.size W w3 := hw.grown hg3 hw.size (fun q hq => (ho.lt q hq).1)
    refine ⟨v3, w3, hr3, kept hw3, ?_⟩
    rw [t3]
    refine anyC_step _ I.r4 (by simp) (one_list ⟨n4, I.o4, h4, g4, ?_⟩)
    have E3 : ((((a.put (some d0) v0).put (some d1) v1).put (some d2) v2).put (some d3) v3).eval (.tmp d3) = v3 := eval_at (by simpa [put_size] using a3)
    have E4 : ((((a.put (some d0) v0).put (some d1) v1).put (some d2) v2).put (some d3) v3).eval (.tmp k2) = S2 := by
      rw [eval_ne (Ne.symm d3k2), eval_ne (Ne.symm d2k2), eval_ne (Ne.symm d1k2), eval_ne (Ne.symm d0k2)]; exact e2
    obtain ⟨v4, w4, hr4, ho4, hg4⟩ := exec_append T _ _ I.op4 E3 E4 ho3 (s2.below hw3) u2 hm hb hw3.size
    have hw4 : Below W.heap.size W w4 := hw3.grown hg4 hw3.size (fun q hq => (ho3.lt q hq).1)
    refine ⟨v4, w4, hr4, kept hw4, ?_⟩
    rw [t4]
    exact K v0 v1 v2 v3 v4 w4 ho4 hw4
  have src_new : ∀ w : World, Src (w.alloc (.cells X.cells e)) (.slice (some ⟨w.heap.size, 0, none⟩) 1 1) 1 size X.cells.toList := fun w => by
    refine ⟨by simp [hx], .inr ⟨_, _, rfl, fun j u hj => ?_⟩⟩
    have : X.cells[j]? = some u := by simpa using hj
    have key : ∀ i u, X.cells[i]? = some u → (w.alloc (.cells X.cells e)).cell? ⟨w.heap.size, i, none⟩ = some u := fun i u hi => by
      simp only [World.cell?, heap_alloc_new, hi]; rfl
    unfold Addr.add
    split
    · rename_i h0; subst h0; exact key 0 u this
    · show (w.alloc (.cells X.cells e)).cell? ⟨w.heap.size, 0 + j, none⟩ = some u
      rw [Nat.zero_add]; exact key j u this
  refine anyC_step _ I.r (by simp) (two_list ?_ ?_)
  · -- the empty list first
    refine ⟨n0, I.o0, h0, g0, _, _, I.run0 a W.drew, kept (B0.alloc (by simp) _), ?_⟩
    rw [t0]
    have O0 : (W.drew.alloc (.cells #[] e)).ownsRow W.heap.size e size (.slice (some ⟨W.drew.heap.size, 0, none⟩) 0 0) 0 [] := World.ownsRow_made W.drew #[] 0 (by simp) (Nat.zero_le _) (by simp)
    have BA : Below W.heap.size W (W.drew.alloc (.cells #[] e)) := B0.alloc (by simp) _
    refine anyC_step _ I.r0 (by simp) (two_list ?_ ?_)
    · -- then what stands ahead
      refine ⟨n1, I.o1, h1, g1, ?_⟩
      have E0 : (a.put (some d0) (.slice (some ⟨W.drew.heap.size, 0, none⟩) 0 0)).eval (.tmp d0) = .slice (some ⟨W.drew.heap.size, 0, none⟩) 0 0 := eval_at a0
      have E1 : (a.put (some d0) (.slice (some ⟨W.drew.heap.size, 0, none⟩) 0 0)).eval (.tmp k1) = S1 := by rw [eval_ne (Ne.symm d0k1)]; exact e1
      obtain ⟨v1, w1, hr1, ho1, hg1⟩ := exec_append T _ _ I.op1 E0 E1 O0 (s1.below BA) u1 (by omega) (by simpa using hm1) BA.size
      have hw1 : Below W.heap.size W w1 := BA.grown hg1 BA.size (fun q hq => (O0.lt q hq).1)
      refine ⟨v1, w1, hr1, kept hw1, ?_⟩
      rw [t1]
      refine anyC_step _ I.r01 (by simp) (one_list ⟨n2, I.o2, h2, g2, _, _, I.run2 _ (by rw [eval_ne (Ne.symm d1x), eval_ne (Ne.symm d0x)]; exact ex) w1, kept (hw1.alloc hw1.size _), ?_⟩)
      rw [t2]
      simp only [Nat.zero_add, List.nil_append] at ho1
      exact last _ _ _ _ (ho1.alloc _) (src_new w1) (hw1.alloc hw1.size _)
    · -- or the one that is put in
      refine ⟨n2, I.o2, h2, g2, _, _, I.run2 _ (by rw [eval_ne (Ne.symm d0x)]; exact ex) _, kept (BA.alloc BA.size _), ?_⟩
      rw [t2]
      have BB := BA.alloc BA.size (.cells X.cells e)
      refine anyC_step _ I.r02 (by simp) (one_list ⟨n1, I.o1, h1, g1, ?_⟩)
      have E0 : ((a.put (some d0) (.slice (some ⟨W.drew.heap.size, 0, none⟩) 0 0)).put (some d2) (.slice (some ⟨(W.drew.alloc (.cells #[] e)).heap.size, 0, none⟩) 1 1)).eval (.tmp d0) = .slice (some ⟨W.drew.heap.size, 0, none⟩) 0 0 := by
        rw [eval_ne d02]; exact eval_at a0
      have E1 : ((a.put (some d0) (.slice (some ⟨W.drew.heap.size, 0, none⟩) 0 0)).put (some d2) (.slice (some ⟨(W.drew.alloc (.cells #[] e)).heap.size, 0, none⟩) 1 1)).eval (.tmp k1) = S1 := by
        rw [eval_ne (Ne.symm d2k1), eval_ne (Ne.symm d0k1)]; exact e1
      obtain ⟨v1, w1, hr1, ho1, hg1⟩ := exec_append T _ _ I.op1 E0 E1 (O0.alloc _) (s1.below BB) u1 (by omega) (by simpa using hm1) BB.size
      have hw1 : Below W.heap.size W w1 := BB.grown hg1 BB.size (fun q hq => (O0.lt q hq).1)
      refine ⟨v1, w1, hr1, kept hw1, ?_⟩
      rw [t1, Array.setIfInBounds_comm _ _ (Ne.symm i12), Act.put_comm _ _ _ (fun d hd => by cases hd; simpa using d12)]
      simp only [Nat.zero_add, List.nil_append] at ho1
      exact last _ _ _ _ ho1 ((src_new _).grown hg1 (fun ad n c hv => by cases hv; simp [Value.ownBlock])) hw1
  · -- the one that is put in first
    refine ⟨n2, I.o2, h2, g2, _, _, I.run2 a ex W.drew, kept (B0.alloc (by simp) _), ?_⟩
    rw [t2]
    have BA : Below W.heap.size W (W.drew.alloc (.cells X.cells e)) := B0.alloc (by simp) _
    refine anyC_step _ I.r2 (by simp) (one_list ⟨n0, I.o0, h0, g0, _, _, I.run0 _ _, kept (BA.alloc BA.size _), ?_⟩)
    rw [t0, Array.setIfInBounds_comm _ _ (Ne.symm i02), Act.put_comm _ _ _ (fun d hd => by cases hd; simpa using d02)]
    have BB := BA.alloc BA.size (.cells #[] e)
    have O0 : ((W.drew.alloc (.cells X.cells e)).alloc (.cells #[] e)).ownsRow W.heap.size e size (.slice (some ⟨(W.drew.alloc (.cells X.cells e)).heap.size, 0, none⟩) 0 0) 0 [] := World.ownsRow_made _ #[] 0 BA.size (Nat.zero_le _) (by simp)
    have S0 : Src ((W.drew.alloc (.cells X.cells e)).alloc (.cells #[] e)) (.slice (some ⟨W.drew.heap.size, 0, none⟩) 1 1) 1 size X.cells.toList := (src_new W.drew).below ((Below.refl _ _).alloc (Nat.le_refl _) _)
    refine anyC_step _ I.r02 (by simp) (one_list ⟨n1, I.o1, h1, g1, ?_⟩)
    have E0 : ((a.put (some d0) (.slice (some ⟨(W.drew.alloc (.cells X.cells e)).heap.size, 0, none⟩) 0 0)).put (some d2) (.slice (some ⟨W.drew.heap.size, 0, none⟩) 1 1)).eval (.tmp d0) = .slice (some ⟨(W.drew.alloc (.cells X.cells e)).heap.size, 0, none⟩) 0 0 := by
      rw [eval_ne d02]; exact eval_at a0
    have E1 : ((a.put (some d0) (.slice (some ⟨(W.drew.alloc (.cells X.cells e)).heap.size, 0, none⟩) 0 0)).put (some d2) (.slice (some ⟨W.drew.heap.size, 0, none⟩) 1 1)).eval (.tmp k1) = S1 := by
      rw [eval_ne (Ne.symm d2k1), eval_ne (Ne.symm d0k1)]; exact e1
    obtain ⟨v1, w1, hr1, ho1, hg1⟩ := exec_append T _ _ I.op1 E0 E1 O0 (s1.below BB) u1 (by omega) (by simpa using hm1) BB.size
    have hw1 : Below W.heap.size W w1 := BB.grown hg1 BB.size (fun q hq => (O0.lt q hq).1)
    refine ⟨v1, w1, hr1, kept hw1, ?_⟩
    rw [t1, Array.setIfInBounds_comm _ _ (Ne.symm i12), Act.put_comm _ _ _ (fun d hd => by cases hd; simpa using d12)]
    simp only [Nat.zero_add, List.nil_append] at ho1
    exact last _ _ _ _ ho1 (S0.grown hg1 (fun ad n c hv => by cases hv; simp [Value.ownBlock])) hw1

end
end

/-
  Lists of the call's own, whatever their elements are in cells: a row that holds them one behind the other. No program is named here.
-/
section
open Go.RowKit

section
variable {α : Type}
/-- The cells of a list, k of each element. -/
def enc (k : Nat) (e : α → Nat → Value) (l : List α) : List Value := l.flatMap fun a => (List.range k).map (e a)
theorem enc_nil (k : Nat) (e : α → Nat → Value) : enc k e [] = [] := rfl
theorem enc_cons (k : Nat) (e : α → Nat → Value) (a : α) (l : List α) : enc k e (a :: l) = (List.range k).map (e a) ++ enc k e l := by simp [enc]
theorem enc_append (k : Nat) (e : α → Nat → Value) (l m : List α) : enc k e (l ++ m) = enc k e l ++ enc k e m := by simp [enc]
theorem enc_len (k : Nat) (e : α → Nat → Value) : ∀ l : List α, (enc k e l).length = l.length * k
  | [] => by simp [enc]
  | a :: l => by rw [enc_cons, List.length_append, enc_len k e l]; simp [Nat.add_mul]; omega
theorem enc_at (k : Nat) (e : α → Nat → Value) : ∀ (l : List α) (i : Nat) (h : i < l.length) (j : Nat), j < k → (enc k e l)[i * k + j]? = some (e l[i] j)
  | [], i, h, _, _ => absurd h (Nat.not_lt_zero _)
  | a :: l, 0, h, j, hj => by
    rw [enc_cons, Nat.zero_mul, Nat.zero_add, List.getElem?_append_left (by simpa using hj)]
    simp [hj]
  | a :: l, i + 1, h, j, hj => by
    rw [enc_cons, List.getElem?_append_right (by simp [Nat.add_mul]; omega)]
    have e1 : (i + 1) * k + j - ((List.range k).map (e a)).length = i * k + j := by simp [Nat.add_mul]; omega
    rw [e1, enc_at k e l i (by simpa using h) j hj]
    simp
theorem enc_take (k : Nat) (e : α → Nat → Value) : ∀ (l : List α) (i : Nat), (enc k e l).take (i * k) = enc k e (l.take i)
  | [], i => by simp [enc]
  | a :: l, 0 => by simp [enc]
  | a :: l, i + 1 => by
    rw [enc_cons, List.take_succ_cons, enc_cons, List.take_append]
    have e1 : (i + 1) * k - ((List.range k).map (e a)).length = i * k := by simp [Nat.add_mul]
    rw [e1, enc_take k e l i, List.take_of_length_le (by simp [Nat.add_mul])]
theorem enc_drop (k : Nat) (e : α → Nat → Value) : ∀ (l : List α) (i : Nat), (enc k e l).drop (i * k) = enc k e (l.drop i)
  | [], i => by simp [enc]
  | a :: l, 0 => by simp [enc]
  | a :: l, i + 1 => by
    rw [enc_cons, List.drop_succ_cons, List.drop_append]
    have e1 : (i + 1) * k - ((List.range k).map (e a)).length = i * k := by simp [Nat.add_mul]
    rw [e1, enc_drop k e l i, List.drop_of_length_le (by simp [Nat.add_mul]), List.nil_append]
theorem enc_mem {k : Nat} {e : α → Nat → Value} {l : List α} {u : Value} (h : u ∈ enc k e l) : ∃ a ∈ l, ∃ j, j < k ∧ u = e a j := by
  simp only [enc, List.mem_flatMap, List.mem_map, List.mem_range] at h
  obtain ⟨a, ha, j, hj, rfl⟩ := h
  exact ⟨a, ha, j, hj, rfl⟩
/-- One cell written. -/
theorem enc_set (k : Nat) (e : α → Nat → Value) : ∀ (l : List α) (i : Nat) (h : i < l.length) (j : Nat), j < k → ∀ (u : Value) (a' : α), (∀ q, q < k → e a' q = if q = j then u else e l[i] q) → (enc k e l).set (i * k + j) u = enc k e (l.set i a')
  | [], i, h, _, _, _, _, _ => absurd h (Nat.not_lt_zero _)
  | a :: l, 0, h, j, hj, u, a', he => by
    rw [List.set_cons_zero, enc_cons, enc_cons, Nat.zero_mul, Nat.zero_add, List.set_append_left _ _ (by simpa using hj)]
    congr 1
    apply List.ext_getElem
    · simp
    · intro q h1 h2
      have hq : q < k := by simpa using h2
      simp only [List.getElem_set, List.getElem_map, List.getElem_range]
      rw [he q hq]
      by_cases e1 : j = q
      · rw [if_pos e1, if_pos e1.symm]
      · rw [if_neg e1, if_neg (fun h => e1 h.symm)]; rfl
  | a :: l, i + 1, h, j, hj, u, a', he => by
    rw [List.set_cons_succ, enc_cons, enc_cons, List.set_append_right _ _ (by simp [Nat.add_mul]; omega)]
    have e1 : (i + 1) * k + j - ((List.range k).map (e a)).length = i * k + j := by simp [Nat.add_mul]; omega
    rw [e1, enc_set k e l i (by simpa using h) j hj u a' (by simpa using he)]

/-- A list of the call's own. -/
abbrev Row (w : World) (B : Nat) (t : TypeId) (k : Nat) (e : α → Nat → Value) (v : Value) (l : List α) : Prop := w.ownsRow B t k v l.length (enc k e l)

theorem Row.nil (w : World) (B : Nat) (t : TypeId) (k : Nat) (e : α → Nat → Value) : Row w B t k e (.slice none 0 0) [] := World.ownsRow_nil w B t k
theorem Row.made (w : World) {B : Nat} (t : TypeId) (k : Nat) (e : α → Nat → Value) (hB : B ≤ w.heap.size) : Row (w.alloc (.cells #[] t)) B t k e (.slice (some ⟨w.heap.size, 0, none⟩) 0 0) [] := World.ownsRow_made w #[] 0 hB (Nat.zero_le _) (by simp)
theorem Row.low {w : World} {B B' : Nat} {t : TypeId} {k : Nat} {e : α → Nat → Value} {v : Value} {l : List α} (h : Row w B t k e v l) (hB : B' ≤ B) : Row w B' t k e v l := Go.Joins.ownsRow_le h hB
theorem Row.len {w : World} {B : Nat} {t : TypeId} {k : Nat} {e : α → Nat → Value} {v : Value} {l : List α} (h : Row w B t k e v l) : l.length ≤ maxLen := by
  rcases h.2 with ⟨_, hn⟩ | ⟨g, cap, cur, _, _, _, hc, hm, _⟩
  · omega
  · omega
theorem Row.block {w w' : World} {B : Nat} {t : TypeId} {k : Nat} {e : α → Nat → Value} {v : Value} {l : List α} (h : Row w B t k e v l) (hb : ∀ g, v.ownBlock = some g → w'.heap[g]? = w.heap[g]?) : Row w' B t k e v l := by
  refine ⟨h.1, ?_⟩
  rcases h.2 with hn | ⟨g, cap, cur, hv, hbg, hg, rest⟩
  · exact Or.inl hn
  · exact Or.inr ⟨g, cap, cur, hv, hbg, (hb g (by rw [hv]; rfl)).trans hg, rest⟩
theorem Row.form {w : World} {B : Nat} {t : TypeId} {k : Nat} {e : α → Nat → Value} {v : Value} {l : List α} (h : Row w B t k e v l) : ∃ oa cap, v = .slice oa l.length cap := by
  rcases h.2 with ⟨hv, hn⟩ | ⟨g, cap, cur, hv, _⟩
  · exact ⟨none, 0, by rw [hv, hn]⟩
  · exact ⟨_, cap, hv⟩
theorem Row.below {w w' : World} {B : Nat} {t : TypeId} {k : Nat} {e : α → Nat → Value} {v : Value} {l : List α} (h : Row w B t k e v l) (hb : Below w.heap.size w w') : Row w' B t k e v l :=
  Row.block h (fun g hg => hb.block g (World.ownsRow.lt h g hg).2)
/-- A row is of a type; rows of two types don't lie in one block. -/
theorem Row.typed {w : World} {B : Nat} {t : TypeId} {k : Nat} {e : α → Nat → Value} {v : Value} {l : List α} (h : Row w B t k e v l) (g : Nat) (hg : v.ownBlock = some g) : ∃ cur, w.heap[g]? = some (.cells cur t (0, 0)) := by
  rcases h.2 with ⟨rfl, _⟩ | ⟨g', cap, cur, rfl, _, hgg, _⟩
  · cases hg
  · cases hg; exact ⟨cur, hgg⟩
theorem Row.apart {β : Type} {w : World} {B B' : Nat} {t t' : TypeId} {k k' : Nat} {e : α → Nat → Value} {e' : β → Nat → Value} {v v' : Value} {l : List α} {l' : List β} (h : Row w B t k e v l) (h' : Row w B' t' k' e' v' l') (ht : t ≠ t') : v.ownBlock = none ∨ v.ownBlock ≠ v'.ownBlock := by
  cases hv : v.ownBlock with
  | none => exact .inl rfl
  | some g =>
    refine .inr fun e => ?_
    obtain ⟨c, hc⟩ := Row.typed h g hv
    obtain ⟨c', hc'⟩ := Row.typed h' g e.symm
    rw [hc] at hc'
    exact ht (by injection hc' with h1; injection h1)
/-- An element's cell. -/
theorem Row.cell {w : World} {B : Nat} {t : TypeId} {k : Nat} {e : α → Nat → Value} {v : Value} {l : List α} (h : Row w B t k e v l) {i : Nat} (hi : i < l.length) : ∃ g cap, v = .slice (some ⟨g, 0, none⟩) l.length cap ∧ B ≤ g ∧ g < w.heap.size ∧ ∀ j, j < k → w.cell? ⟨g, i * k + j, none⟩ = some (e l[i] j) ∧ w.frozen? ⟨g, i * k + j, none⟩ = false := by
  rcases h.2 with ⟨_, hn⟩ | ⟨g, cap, cur, rfl, hb, hg, hc, hm', hs, ht⟩
  · omega
  · refine ⟨g, cap, rfl, hb, (Array.getElem?_eq_some_iff.1 hg).1, fun j hj => cell_row hg _ _ ?_⟩
    have e1 := enc_at k e l i hi j hj
    rw [← ht, List.getElem?_take_of_lt (by have : (i + 1) * k ≤ l.length * k := Nat.mul_le_mul_right _ hi; rw [Nat.add_mul, Nat.one_mul] at this; omega)] at e1
    rw [← Array.getElem?_toList]; exact e1
/-- One cell of an element written. -/
theorem Row.put {w : World} {B : Nat} {t : TypeId} {k : Nat} {e : α → Nat → Value} {g cap : Nat} {l : List α} (h : Row w B t k e (.slice (some ⟨g, 0, none⟩) l.length cap) l) {i : Nat} (hi : i < l.length) {j : Nat} (hj : j < k) (u : Value) (a' : α) (he : ∀ q, q < k → e a' q = if q = j then u else e l[i] q) :
    Row (w.setCell ⟨g, i * k + j, none⟩ u) B t k e (.slice (some ⟨g, 0, none⟩) l.length cap) (l.set i a') ∧ w.grownBy (w.setCell ⟨g, i * k + j, none⟩ u) (some g) := by
  obtain ⟨h1, h2⟩ := World.ownsRow.stored h (i * k + j) u
  rw [enc_set k e l i hi j hj u a' he] at h1
  refine ⟨?_, h2⟩
  show World.ownsRow _ _ _ _ _ _ _
  rw [List.length_set]; exact h1
end

/-- A list of the call's own as data. -/
theorem Row.at_ {α β : Type} [Lay β] {w : World} {B : Nat} {t : TypeId} {k : Nat} {e : α → Nat → Value} {v : Value} {l : List α} (h : Row w B t k e v l) (d : α → β) (hk : Lay.width β = k) {S : Nat → Prop} (hS : ∀ g, v.ownBlock = some g → S g) (hat : ∀ x ∈ l, Lay.At S w (d x) (e x)) : AtL S w (l.map d) v := by
  have hlen := Row.len h
  rcases h.2 with ⟨rfl, hn⟩ | ⟨g, cap, cur, rfl, hb, hg, hc, hm', hs, ht⟩
  · have : l = [] := List.eq_nil_of_length_eq_zero hn
    subst this
    exact ⟨none, 0, rfl, ⟨Nat.zero_le _, Nat.le_refl _, fun _ => rfl⟩, fun i hi => absurd hi (Nat.not_lt_zero _)⟩
  · refine ⟨some ⟨g, 0, none⟩, cap, by rw [List.length_map], ⟨by rw [List.length_map]; exact hlen, by rw [List.length_map]; exact hc, fun h => nomatch h⟩, fun i hi => ?_⟩
    rw [List.length_map] at hi
    refine ⟨g, 0, rfl, hS g rfl, e l[i], fun j hj => ?_, by rw [List.getElem_map]; exact hat _ (List.getElem_mem hi)⟩
    rw [hk] at hj ⊢
    obtain ⟨g', cap', hv, _, _, hcell⟩ := Row.cell (α := α) (l := l) (e := e) h hi
    cases hv
    have := (hcell j hj).1
    rw [Nat.zero_add]; exact this
theorem Row.on {α β : Type} [Own β] {w : World} {B : Nat} {t : TypeId} {k : Nat} {e : α → Nat → Value} {v : Value} {l : List α} (h : Row w B t k e v l) (d : α → β) (hk : Lay.width β = k) {S : Nat → Prop} (hS : ∀ g, v.ownBlock = some g → S g) (Ss : Nat → Nat → Prop) (sub : ∀ i b, Ss i b → S b ∧ v.ownBlock ≠ some b) (dis : ∀ i j b, Ss i b → Ss j b → i = j) (hon : ∀ i (h : i < l.length), Own.On (Ss i) w (d l[i]) (e l[i])) : OnL S w (l.map d) v := by
  have hlen := Row.len h
  rcases h.2 with ⟨rfl, hn⟩ | ⟨g, cap, cur, rfl, hb, hg, hc, hm', hs, ht⟩
  · have : l = [] := List.eq_nil_of_length_eq_zero hn
    subst this
    exact ⟨none, 0, rfl, ⟨Nat.zero_le _, Nat.le_refl _, fun _ => rfl⟩, .inl rfl⟩
  · refine ⟨some ⟨g, 0, none⟩, cap, by rw [List.length_map], ⟨by rw [List.length_map]; exact hlen, by rw [List.length_map]; exact hc, fun h => nomatch h⟩, ?_⟩
    cases hl : l with
    | nil => exact .inl rfl
    | cons x0 l0 =>
      refine .inr ⟨g, 0, Ss, cur, t, rfl, fun i => d (l.getD i x0), fun i hi => ?_, ⟨hg, hS g rfl, fun i b hb => ⟨(sub i b hb).1, fun e => (sub i b hb).2 (by rw [e]; rfl)⟩, dis, fun i hi => ?_⟩⟩
      · rw [List.getElem_map]
        congr 1
        rw [List.length_map] at hi
        subst hl
        simp only [List.getD_eq_getElem?_getD, List.getElem?_eq_getElem hi, Option.getD_some]
      · rw [← hl, List.length_map] at hi
        refine ⟨e l[i], fun j hj => ?_, ?_⟩
        · rw [hk] at hj ⊢
          have e1 := enc_at k e l i hi j hj
          rw [← ht, List.getElem?_take_of_lt (by have : (i + 1) * k ≤ l.length * k := Nat.mul_le_mul_right _ hi; rw [Nat.add_mul, Nat.one_mul] at this; omega)] at e1
          rw [Nat.zero_add, ← Array.getElem?_toList]; exact e1
        · have : l.getD i x0 = l[i] := by simp [hi]
          rw [this]; exact hon i hi

/-- Flat data: what its cells are hangs on nothing else. -/
structure Flat {α : Type} [Lay α] (k : Nat) (e : α → Nat → Value) (ok : α → Prop) : Prop where
  wid : Lay.width α = k
  cell : ∀ {S : Nat → Prop} {w : World} {a : α} {c : Nat → Value}, Lay.At S w a c → (∀ j, j < k → c j = e a j) ∧ ok a
  at_ : ∀ {S : Nat → Prop} {w : World} {a : α}, ok a → Lay.At S w a (e a)
  one : ∀ (a : α) (j : Nat), (e a j).oneCell' = true

section
variable {α : Type} [Lay α] {k : Nat} {e : α → Nat → Value} {ok : α → Prop}
theorem Flat.ok_all (F : Flat k e ok) {S : Nat → Prop} {w : World} {l : List α} {v : Value} (h : AtL S w l v) : ∀ x ∈ l, ok x := fun x hx => by
  obtain ⟨oa, cap, _, _, hc⟩ := h
  obtain ⟨i, hi, rfl⟩ := List.getElem_of_mem hx
  obtain ⟨b, off, _, _, c, _, hat⟩ := hc i hi
  exact (F.cell hat).2
/-- What can be appended: a list that lies anywhere. -/
theorem Flat.src (F : Flat k e ok) {S : Nat → Prop} {w : World} {l : List α} {v : Value} (h : AtL S w l v) : Src w v l.length k (enc k e l) := by
  refine ⟨enc_len k e l, ?_⟩
  obtain ⟨oa, cap, rfl, hn, hc⟩ := h
  cases oa with
  | none =>
    have h0 : l.length = 0 := by have := hn.2.2.out rfl; omega
    exact .inl ⟨by rw [h0, hn.2.2.out rfl], h0⟩
  | some ad =>
    refine .inr ⟨ad, cap, rfl, fun j u hj => ?_⟩
    by_cases hk : k = 0
    · subst hk
      have := (List.getElem?_eq_some_iff.1 hj).1
      rw [enc_len] at this; omega
    have hk : 0 < k := by omega
    have hjl : j < l.length * k := by have := (List.getElem?_eq_some_iff.1 hj).1; rwa [enc_len] at this
    have hi : j / k < l.length := by rw [Nat.div_lt_iff_lt_mul hk]; exact hjl
    obtain ⟨b, off, hb, _, c, hcell, hat⟩ := hc (j / k) hi
    cases hb
    have hm := Nat.mod_lt j hk
    have hdm : j / k * k + j % k = j := by rw [Nat.mul_comm]; exact Nat.div_add_mod j k
    have e1 := enc_at k e l (j / k) hi (j % k) hm
    rw [hdm, hj] at e1
    cases e1
    rw [add_at]
    have := hcell (j % k) (by rw [F.wid]; exact hm)
    rw [F.wid, Nat.add_assoc, hdm] at this
    rw [this, (F.cell hat).1 _ hm]
theorem Flat.enc_one (F : Flat k e ok) (l : List α) : ∀ u ∈ enc k e l, u.oneCell' = true := fun u hu => by
  obtain ⟨a, _, j, _, rfl⟩ := enc_mem hu
  exact F.one a j
theorem Flat.row_at (F : Flat k e ok) {w : World} {B : Nat} {t : TypeId} {v : Value} {l : List α} (h : Row w B t k e v l) {S : Nat → Prop} (hS : ∀ g, v.ownBlock = some g → S g) (hok : ∀ x ∈ l, ok x) : AtL S w l v := by
  have := Row.at_ h id F.wid hS (fun x hx => F.at_ (hok x hx))
  rwa [List.map_id] at this
end

section
variable {P : Program}
/-- What append does to a list of the call's own; where the answer lies. -/
theorem run_app {t e : TypeId} {size bytes base n m : Nat} {w : World} {v sv : Value} {xs news : List Value} (T : ElT P t e size bytes) (hown : w.ownsRow base e size v n xs) (hsrc : Src w sv m size news) (h1 : ∀ u ∈ news, u.oneCell' = true) (h63 : n + m ≤ maxLen) (hbytes : (n + m) * bytes ≤ 140737488355328) (hbase : base ≤ w.heap.size) (ty : TypeId) :
    ∃ v' w', (Builtin.append_ #[t, t] ty #[v, sv]).run P w = .ok v' w' ∧ w'.ownsRow base e size v' (n + m) (xs ++ news) ∧ w.grownBy w' v.ownBlock ∧ (v'.ownBlock = v.ownBlock ∨ v'.ownBlock = some w.heap.size) := by
  obtain ⟨i, z, hi, hz, h2, h3, h4⟩ := T.info
  rcases hsrc with ⟨hl, ⟨rfl, rfl⟩ | ⟨ad, c, rfl, hc⟩⟩
  · have hn : news = [] := List.eq_nil_of_length_eq_zero (by simpa using hl)
    subst hn
    have hr := run_append_owned_none (P := P) (w := w) base t ty e i size T.ht hi v n xs hown
    exact ⟨v, w, hr, by simpa using hown, ⟨rfl, rfl, rfl, Nat.le_refl _, fun _ _ _ => rfl⟩, .inl rfl⟩
  · obtain ⟨v', w', hr, q1, q2, _, q3⟩ := run_append_own_at (P := P) (w := w) base t ty e i z size bytes T.ht hi hz h2 h3 h4 T.pos v n xs hown ad m c news hl hc h1 h63 hbytes hbase
    exact ⟨v', w', hr, q1, q2, q3⟩
theorem wpList_app {ops : Array Oper} {rest : List Oper} {o : Oper} {a : Act} {w : World} {Q : Exit → Act → World → Prop} {t e : TypeId} {size bytes base n m : Nat} {v sv : Value} {xs news : List Value} (T : ElT P t e size bytes) (hgd : o.guard = none) (s x : Operand)
    (ho : o.op = .call { callee := .builtin .append, args := #[s, x], argTypes := #[t, t] }) (hs : a.eval s = v) (hx : a.eval x = sv) (hown : w.ownsRow base e size v n xs) (hsrc : Src w sv m size news) (h1 : ∀ u ∈ news, u.oneCell' = true) (h63 : n + m ≤ maxLen) (hbytes : (n + m) * bytes ≤ 140737488355328) (hbase : base ≤ w.heap.size)
    (h : ∀ v' w', w'.ownsRow base e size v' (n + m) (xs ++ news) → w.grownBy w' v.ownBlock → (v'.ownBlock = v.ownBlock ∨ v'.ownBlock = some w.heap.size) → wpList P ops Q rest (a.put o.dst v') w') :
    wpList P ops Q (o :: rest) a w := by
  refine wpList_plain hgd fun K hK => ?_
  obtain ⟨v', w', hr, h2, h3, h4⟩ := run_app (P := P) T hown hsrc h1 h63 hbytes hbase o.type
  unfold Oper.wp execOp
  simp only [ho, resolve, invoke, builtin, Sem.run_bind, Sem.run_pure, Result.andThen_ok, List.map_toArray, List.map_cons, List.map_nil, hs, hx, hr]
  exact hK _ _ (h v' w' h2 h3 h4)
end

/-- A part of what can be appended. -/
theorem Src.take_ {w : World} {ad : Addr} {n c K : Nat} {news : List Value} (h : Src w (.slice (some ad) n c) n K news) {k : Nat} (hk : k ≤ n) (c' : Nat) : Src w (.slice (some ad) k c') k K (news.take (k * K)) := by
  have hle : k * K ≤ n * K := Nat.mul_le_mul_right _ hk
  refine ⟨by rw [List.length_take, h.1]; omega, .inr ⟨ad, c', rfl, fun j u hj => ?_⟩⟩
  rcases h.2 with ⟨h2, _⟩ | ⟨ad', c2, h2, hc⟩
  · cases h2
  · cases h2
    refine hc j u ?_
    have hjl := (List.getElem?_eq_some_iff.1 hj).1
    rw [List.length_take] at hjl
    rwa [List.getElem?_take_of_lt (by omega)] at hj
theorem Src.drop_ {w : World} {b off n cap K : Nat} {news : List Value} (h : Src w (.slice (some ⟨b, off, none⟩) n cap) n K news) {k : Nat} (hk : k ≤ n) (hn : n ≤ cap) : Src w (.slice (if cap = k then some ⟨b, off, none⟩ else some ⟨b, off + k * K, none⟩) (n - k) (cap - k)) (n - k) K (news.drop (k * K)) := by
  refine Src.tail (by rw [List.length_drop, h.1, Nat.sub_mul]) (fun e => by omega) (fun _ j u hj => ?_)
  rcases h.2 with ⟨h2, _⟩ | ⟨ad', c2, h2, hc⟩
  · cases h2
  · cases h2
    rw [List.getElem?_drop] at hj
    have := hc _ u hj
    rw [add_at] at this ⊢
    rw [← Nat.add_assoc] at this
    exact this
theorem Src.none_ (w : World) (K : Nat) : Src w (.slice none 0 0) 0 K [] := ⟨by simp, .inl ⟨rfl, rfl⟩⟩

/-- Four cells of a box written, one behind the other. -/
theorem ret4 {w : World} {g : Nat} {x0 x1 x2 x3 : Value} {t : TypeId} (h : w.heap[g]? = some (.cells #[x0, x1, x2, x3] t (0, 0))) (a b c d : Value) :
    ((((w.setCell ⟨g, 0, none⟩ a).setCell ⟨g, 1, none⟩ b).setCell ⟨g, 2, none⟩ c).setCell ⟨g, 3, none⟩ d).heap[g]? = some (.cells #[a, b, c, d] t (0, 0)) ∧
    (∀ q, q ≠ g → ((((w.setCell ⟨g, 0, none⟩ a).setCell ⟨g, 1, none⟩ b).setCell ⟨g, 2, none⟩ c).setCell ⟨g, 3, none⟩ d).heap[q]? = w.heap[q]?) ∧
    ((((w.setCell ⟨g, 0, none⟩ a).setCell ⟨g, 1, none⟩ b).setCell ⟨g, 2, none⟩ c).setCell ⟨g, 3, none⟩ d).heap.size = w.heap.size ∧
    Below g w ((((w.setCell ⟨g, 0, none⟩ a).setCell ⟨g, 1, none⟩ b).setCell ⟨g, 2, none⟩ c).setCell ⟨g, 3, none⟩ d) := by
  refine ⟨?_, ?_, by simp, ?_⟩
  · have := set_row (set_row (set_row (set_row h 0 a) 1 b) 2 c) 3 d
    simpa using this
  · intro q hq
    exact (Below.heap_setCell _ ⟨g, 3, none⟩ d q hq).trans ((Below.heap_setCell _ ⟨g, 2, none⟩ c q hq).trans ((Below.heap_setCell _ ⟨g, 1, none⟩ b q hq).trans (Below.heap_setCell _ ⟨g, 0, none⟩ a q hq)))
  · exact ((((Below.refl _ _).setCell (p := ⟨g, 0, none⟩) (Nat.le_refl _) a).setCell (p := ⟨g, 1, none⟩) (Nat.le_refl _) b).setCell (p := ⟨g, 2, none⟩) (Nat.le_refl _) c).setCell (p := ⟨g, 3, none⟩) (Nat.le_refl _) d

/-- A list that was there, or a new one. -/
def Fresh (w : World) (v r : Value) : Prop := ∀ g, r.ownBlock = some g → v.ownBlock = some g ∨ w.heap.size ≤ g
theorem Fresh.refl (w : World) (v : Value) : Fresh w v v := fun _ h => .inl h
theorem Fresh.of_row {α : Type} {w w' : World} {t : TypeId} {k : Nat} {e : α → Nat → Value} {v r : Value} {l : List α} (h : Row w' w.heap.size t k e r l) : Fresh w v r := fun g hg => .inr (World.ownsRow.lt h g hg).1
theorem Fresh.trans {w w' : World} {v r s : Value} (h : Fresh w v r) (h' : Fresh w' r s) (hs : w.heap.size ≤ w'.heap.size) : Fresh w v s := fun g hg => by
  rcases h' g hg with h1 | h1
  · exact h g h1
  · exact .inr (Nat.le_trans hs h1)
end

/-
  A law for a call among operations whose order is open. No program is named here.
-/
section
open Go.RowKit Go.Sort

/-- A call that alone may come up now, and hands back one value. -/
theorem call1 {P : Program} {md : Region.Mode} {ops : Array Oper} {C : World → Prop} {n f : Nat} {L : Array Bool → Act → World → Prop} {listed : Array Bool} {i dc : Nat} {oc : Oper} {a : Act} {w : World} {fn : FuncId} {args : Array Value}
    (hc : ops[i]? = some oc ∧ oc.guard = none ∧ oc.dst = some dc ∧ i < n) (r0 : Region.ready md ops listed = [i])
    (run : (execOp a.eval oc).run P w = .ok (.enter fn args) w) (con : Calls P fn args w fun e w' => ∃ v, e = .returned v ∧ C w' ∧ anyC P md ops C n L f (listed.setIfInBounds i true) (a.put (some dc) v) w') :
    anyC P md ops C n L (f + 1) listed a w := by
  obtain ⟨hc1, hc2, hc3, hc4⟩ := hc
  refine anyC_call i r0 hc4 ⟨oc, hc1, hc2, fn, args, run, con.mono fun e w' ⟨v, he, hC, hk⟩ => ⟨v, he, hC, ?_⟩⟩
  rw [hc3]; exact hk
end

/-
  Laws on a region that draws its order: moves are taken first, then what only reads memory that was there before; what is left may store. No program is named here.
-/
section
open Go.Sort

section
variable {P : Program} {md : Region.Mode} {ops : Array Oper} {C : World → Prop} {n : Nat} {L : Array Bool → Act → World → Prop}

/-- An operation that only hands back a value; picks and tests for nil among them. -/
def valH (o : Oper) : Bool := match o.op with
  | .pick _ _ _ => true
  | .nilCheck _ => true
  | _ => valB o

theorem nil_run {ρ : Operand → Value} {o : Oper} {x : Operand} (h : o.op = .nilCheck x) (w w' : World) (m : Next) (hr : (execOp ρ o).run P w = .ok m w') : ∃ u, m = .value u := by
  unfold execOp at hr
  rw [h] at hr
  simp only [] at hr
  split at hr
  · simp [runtimePanic] at hr
  · simp [runtimePanic] at hr
  · simp [runtimePanic] at hr
  · split at hr
    · simp [runtimePanic] at hr
    · simp only [Sem.run_bind] at hr
      generalize Sem.run P program w = r0 at hr
      cases r0 with
      | halt x w1 => simp [Result.andThen] at hr
      | ok p0 w0 =>
        simp only [Result.andThen] at hr
        generalize Sem.run P (nilAhead _ _ _ _) w0 = r1 at hr
        cases r1 with
        | halt x w1 => simp at hr
        | ok b w1 =>
          simp only [] at hr
          split at hr
          · simp [unsupported] at hr
          · simp at hr
            exact ⟨_, hr.1.symm⟩
    · simp only [Sem.run_pure] at hr; cases hr; exact ⟨_, rfl⟩
  · simp only [Sem.run_pure] at hr; cases hr; exact ⟨_, rfl⟩
theorem pick_run {ρ : Operand → Value} {o : Oper} {c x y : Operand} (h : o.op = .pick c x y) (w w' : World) (m : Next) (hr : (execOp ρ o).run P w = .ok m w') : ∃ u, m = .value u := by
  unfold execOp at hr
  rw [h] at hr
  have hr' : Sem.run P (do let b ← asBool (ρ c); pure (Next.value (if b = true then ρ x else ρ y))) w = .ok m w' := hr
  simp only [Sem.run_bind, Sem.run_pure] at hr'
  generalize Sem.run P (asBool (ρ c)) w = r at hr'
  cases r with
  | halt x w1 => simp [Result.andThen] at hr'
  | ok b w1 => simp only [Result.andThen] at hr'; cases hr'; exact ⟨_, rfl⟩
theorem valH_only {o : Oper} (h : valH o = true) (ρ : Operand → Value) (w : World) (f : FuncId) (args : Array Value) (w' : World) : (execOp ρ o).run P w ≠ .ok (.enter f args) w' := by
  unfold valH at h
  split at h
  · rename_i heq
    intro e
    obtain ⟨u, hu⟩ := pick_run heq w w' _ e
    cases hu
  · rename_i heq
    intro e
    obtain ⟨u, hu⟩ := nil_run heq w w' _ e
    cases hu
  · exact val_only h ρ w f args w'
theorem valH_skip {o : Oper} (h : valH o = true) (ρ : Operand → Value) (w w' : World) : (execOp ρ o).run P w ≠ .ok .skip w' := by
  unfold valH at h
  split at h
  · rename_i heq
    intro e
    obtain ⟨u, hu⟩ := pick_run heq w w' _ e
    cases hu
  · rename_i heq
    intro e
    obtain ⟨u, hu⟩ := nil_run heq w w' _ e
    cases hu
  · exact val_skip h ρ w w'
theorem valH_of_quiet {o : Oper} (h : valH o = true) {a : Act} {v : Value} (hq : ∀ w, C w → o.quietAt P a C w v) : ∀ w, C w → (execOp a.eval o).run P w = .ok (.value v) w := by
  intro w hw
  have h1 := hq w hw
  unfold Oper.quietAt at h1
  have h2 := valH_only (P := P) h a.eval w
  have h3 := valH_skip (P := P) h a.eval w
  generalize (execOp a.eval o).run P w = r at *
  cases r with
  | halt x w' => simp only [Oper.quietUpon] at h1
  | ok m w' =>
    cases m with
    | value u => simp only [Oper.quietUpon] at h1; rw [h1.1, h1.2]
    | skip => exact absurd rfl (h3 w')
    | enter f args => exact absurd rfl (h2 f args w')
    | _ => simp only [Oper.quietUpon] at h1

/-- Operation i comes up: it hands back a value, calls a function that comes back, isn't wanted, or hands back nothing. -/
def stepH (P : Program) (ops : Array Oper) (i : Nat) (K : Act → World → Prop) (a : Act) (w : World) : Prop :=
  ∃ o, ops[i]? = some o ∧
    ((Region.wanted o (yielded ops a.tmps) = true ∧ ∃ u w', (execOp a.eval o).run P w = .ok (.value u) w' ∧ K (a.put o.dst u) w') ∨
     (Region.wanted o (yielded ops a.tmps) = true ∧ ∃ f args, (execOp a.eval o).run P w = .ok (.enter f args) w ∧ Calls P f args w (fun e w'' => ∃ u, e = .returned u ∧ K (a.put o.dst u) w'')) ∨
     (Region.wanted o (yielded ops a.tmps) = false ∧ K (a.put o.dst undef) w) ∨
     (Region.wanted o (yielded ops a.tmps) = true ∧ ∃ w', (execOp a.eval o).run P w = .ok .skip w' ∧ K (a.put o.dst undef) w'))

theorem stepH.mono {i : Nat} {K K' : Act → World → Prop} {a : Act} {w : World} (h : stepH P ops i K a w) (hk : ∀ a w, K a w → K' a w) : stepH P ops i K' a w := by
  obtain ⟨o, ho, h⟩ := h
  refine ⟨o, ho, ?_⟩
  rcases h with ⟨hg, u, w', hr, h⟩ | ⟨hg, f, args, hr, h⟩ | ⟨hg, h⟩ | ⟨hg, w', hr, h⟩
  · exact .inl ⟨hg, u, w', hr, hk _ _ h⟩
  · exact .inr (.inl ⟨hg, f, args, hr, h.mono fun e w'' ⟨u, he, h⟩ => ⟨u, he, hk _ _ h⟩⟩)
  · exact .inr (.inr (.inl ⟨hg, hk _ _ h⟩))
  · exact .inr (.inr (.inr ⟨hg, w', hr, hk _ _ h⟩))

/-- Whatever order is picked, as long as the head is not done. -/
def anyH (P : Program) (md : Region.Mode) (ops : Array Oper) (C : World → Prop) (n : Nat) (L : Array Bool → Act → World → Prop) : Nat → Array Bool → Act → World → Prop
  | 0, listed, a, w => L listed a w
  | f + 1, listed, a, w => Region.ready md ops listed ≠ [] ∧ ∀ i ∈ Region.ready md ops listed, i < n ∧ stepH P ops i (fun a' w' => C w' ∧ anyH P md ops C n L f (listed.setIfInBounds i true) a' w') a w

theorem any_of_H {Q : Exit → Act → World → Prop} {g : Nat} (hL : ∀ listed a w, L listed a w → wpAny P md ops Q g listed a w) :
    ∀ (f : Nat) (listed : Array Bool) (a : Act) (w : World), anyH P md ops C n L f listed a w → wpAny P md ops Q (f + g) listed a w
  | 0, listed, a, w, h => by rw [Nat.zero_add]; exact hL _ _ _ h
  | f + 1, listed, a, w, h => by
    rw [show f + 1 + g = (f + g) + 1 by omega]
    refine ⟨fun h0 => absurd h0 h.1, fun i hi => ?_⟩
    obtain ⟨o, ho, h'⟩ := (h.2 i hi).2
    rcases h' with ⟨hg, u, w', hr, _, hk⟩ | ⟨hg, fn, args, hr, hk⟩ | ⟨hg, _, hk⟩ | ⟨hg, w', hr, _, hk⟩
    · unfold wpOp
      simp only [ho, hg, if_true]
      refine .inl ?_
      unfold Oper.wp
      rw [hr]
      exact any_of_H hL f _ _ _ hk
    · unfold wpOp
      simp only [ho, hg, if_true]
      refine .inl ?_
      unfold Oper.wp
      rw [hr]
      exact hk.mono fun e w'' ⟨u, he, _, hk'⟩ => by subst he; exact any_of_H hL f _ _ _ hk'
    · unfold wpOp
      simp only [ho, hg]
      exact any_of_H hL f _ _ _ hk
    · unfold wpOp
      simp only [ho, hg, if_true]
      refine .inl ?_
      unfold Oper.wp
      rw [hr]
      exact any_of_H hL f _ _ _ hk

/-- One head behind the other. -/
theorem anyH_trans {C' : World → Prop} {n' g : Nat} {L' : Array Bool → Act → World → Prop} (hC : ∀ w, C w) (hn : n' ≤ n) (hL : ∀ listed a w, L' listed a w → anyH P md ops C n L g listed a w) :
    ∀ (f : Nat) (listed : Array Bool) (a : Act) (w : World), anyH P md ops C' n' L' f listed a w → anyH P md ops C n L (f + g) listed a w
  | 0, listed, a, w, h => by rw [Nat.zero_add]; exact hL _ _ _ h
  | f + 1, listed, a, w, h => by
    rw [show f + 1 + g = (f + g) + 1 by omega]
    refine ⟨h.1, fun i hi => ⟨by have := (h.2 i hi).1; omega, (h.2 i hi).2.mono fun a' w' hk => ⟨hC w', anyH_trans hC hn hL f _ _ _ hk.2⟩⟩⟩

/-- The tail waits for what is not listed of the head, as long as some are listed. -/
def waitB (md : Region.Mode) (ops : Array Oper) (n : Nat) (done : Array Bool) : Bool :=
  (List.range n).all fun i => done.getD i false || (List.range (n + 1)).any fun j => decide (i < j) && Region.waitsFor md ops j i
theorem tail_waitsH {done listed : Array Bool} (hs : waitB md ops n done = true) (hc : Region.chainB md ops n = true) (hn : n < ops.size) (inv : HeadInv md ops n listed) (hd : ∀ k, done.getD k false = true → listed.getD k false = true) :
    ∀ (d i : Nat), n - i = d → i < n → listed.getD i true = false → ∀ t, n ≤ t → t ∉ Region.ready md ops listed := by
  intro d
  induction d using Nat.strongRecOn with
  | _ d ih =>
    intro i hdi hi hun t ht hr
    obtain ⟨_, ot, hot, hall⟩ := mem_ready.1 hr
    have htlt : t < ops.size := (Array.getElem?_eq_some_iff.1 hot).1
    by_cases htn : t = n
    · subst htn
      have h1 := List.all_eq_true.1 hs i (List.mem_range.2 hi)
      rw [Bool.or_eq_true] at h1
      rcases h1 with h1 | h1
      · have := hd i h1
        rw [getD_both hun] at this
        cases this
      obtain ⟨j, hj, hj2⟩ := List.any_eq_true.1 h1
      simp only [Bool.and_eq_true, decide_eq_true_eq] at hj2
      obtain ⟨oj, hoj, e, he, hb, hon⟩ := Region.waitsFor_spec hj2.2
      have hjle : j ≤ t := by have := List.mem_range.1 hj; omega
      by_cases hjt : j = t
      · subst hjt
        have : oj = ot := Option.some.inj (hoj.symm.trans hot)
        subst this
        have h2 := hall e he hb
        rw [hon, getD_both hun] at h2
        cases h2
      · cases hl : listed.getD j false with
        | true =>
          have h2 := inv.closed j oj hoj hl e he hb
          rw [hon, getD_both hun] at h2
          cases h2
        | false =>
          have hjs : j < listed.size := by rw [inv.size]; omega
          exact ih (t - j) (by omega) j rfl (by omega) (getD_in hjs hl) t (Nat.le_refl _) hr
    · have h1 := List.all_eq_true.1 hc t (List.mem_range.2 htlt)
      simp only [Bool.or_eq_true, decide_eq_true_eq] at h1
      rcases h1 with h1 | h1
      · omega
      · obtain ⟨o', ho', e, he, hb, hon⟩ := Region.waitsFor_spec h1
        have : o' = ot := Option.some.inj (ho'.symm.trans hot)
        subst this
        have h2 := hall e he hb
        rw [hon, getD_both (inv.tail (t - 1) (by omega) (by omega))] at h2
        cases h2

theorem anyH_first {done : Array Bool} {i : Nat} {oi : Oper} {v : Value} (hi : ops[i]? = some oi) (hsel : Region.noSelect ops = true) (hs : waitB md ops n done = true) (hc : Region.chainB md ops n = true) (hn : n < ops.size) (hin : i < n)
    (hdone : ∀ listed a w, L listed a w → ∀ j ∈ Region.ready md ops listed, n ≤ j) :
    ∀ (f : Nat) (listed : Array Bool) (a : Act) (w : World), C w → HeadInv md ops n listed → (∀ k, done.getD k false = true → listed.getD k false = true) →
      (∀ j oj, ops[j]? = some oj → j ≠ i → listed.getD j true = false → (∀ e ∈ oj.after, Region.binds md e = true → e.on ≠ i) → oi.apart ops oj = true) →
      i ∈ Region.ready md ops listed → ((Region.wanted oi (yielded ops a.tmps) = true ∧ ∀ w, C w → (execOp a.eval oi).run P w = .ok (.value v) w) ∨ (Region.wanted oi (yielded ops a.tmps) = false ∧ v = undef)) →
      anyH P md ops C n L f (listed.setIfInBounds i true) (a.put oi.dst v) w → anyH P md ops C n L (f + 1) listed a w := by
  intro f
  have self : ∀ (listed : Array Bool) (a : Act) (w : World) (f : Nat), C w → ((Region.wanted oi (yielded ops a.tmps) = true ∧ ∀ w, C w → (execOp a.eval oi).run P w = .ok (.value v) w) ∨ (Region.wanted oi (yielded ops a.tmps) = false ∧ v = undef)) →
      anyH P md ops C n L f (listed.setIfInBounds i true) (a.put oi.dst v) w → stepH P ops i (fun a' w' => C w' ∧ anyH P md ops C n L f (listed.setIfInBounds i true) a' w') a w := by
    intro listed a w f hw hy H
    rcases hy with ⟨hg, hy⟩ | ⟨hg, hy⟩
    · exact ⟨oi, hi, .inl ⟨hg, v, w, hy w hw, hw, H⟩⟩
    · rw [hy] at H
      exact ⟨oi, hi, .inr (.inr (.inl ⟨hg, hw, H⟩))⟩
  induction f with
  | zero =>
    intro listed a w hw inv hd _ hr hy H
    refine ⟨(fun h => by rw [h] at hr; cases hr), fun j hj => ?_⟩
    by_cases hji : j = i
    · subst hji; exact ⟨hin, self _ _ _ _ hw hy H⟩
    · have h1 := hdone _ _ _ H j (ready_mono hj hji)
      exact absurd hj (tail_waitsH hs hc hn inv hd _ i rfl hin (mem_ready.1 hr).1 j h1)
  | succ f ih =>
    intro listed a w hw inv hd hfree hr hy H
    refine ⟨(fun h => by rw [h] at hr; cases hr), fun j hj => ?_⟩
    by_cases hji : j = i
    · subst hji; exact ⟨hin, self _ _ _ _ hw hy H⟩
    · obtain ⟨hjn, hstep⟩ := H.2 j (ready_mono hj hji)
      obtain ⟨hjun, oj, hoj, hall⟩ := mem_ready.1 hj
      have hiun := (mem_ready.1 hr).1
      have hnot : ∀ e ∈ oj.after, Region.binds md e = true → e.on ≠ i := fun e he hb heq => by
        have h1 := hall e he hb
        rw [heq, getD_both hiun] at h1
        cases h1
      obtain ⟨h1, h2, h3⟩ := Oper.apart_spec (hfree j oj hoj hji hjun hnot)
      have hex : execOp (a.put oi.dst v).eval oj = execOp a.eval oj := execOp_put (ops := ops) oj (fun cs b => Region.noSelect_spec hsel j oj cs b hoj) a oi.dst v h1
      have hwj : Region.wanted oj (yielded ops (a.put oi.dst v).tmps) = Region.wanted oj (yielded ops a.tmps) := wanted_put oj a oi.dst v h1
      have next : ∀ u w', C w' → anyH P md ops C n L f ((listed.setIfInBounds i true).setIfInBounds j true) ((a.put oi.dst v).put oj.dst u) w' → anyH P md ops C n L (f + 1) (listed.setIfInBounds j true) (a.put oj.dst u) w' := by
        intro u w' hC' hrest
        refine ih (listed.setIfInBounds j true) (a.put oj.dst u) w' hC' (inv.set hj hjn) (fun k hk => getD_set_true (hd k hk)) ?_ (ready_mono hr (Ne.symm hji)) ?_ ?_
        · intro k ok hk hki hun hno
          refine hfree k ok hk hki ?_ hno
          by_cases hjk : j = k
          · subst hjk; exact hjun
          · rw [getD_set_ne true hjk] at hun; exact hun
        · rw [wanted_put oi a oj.dst u h3, execOp_put (ops := ops) oi (fun cs b => Region.noSelect_spec hsel i oi cs b hi) a oj.dst u h3]
          exact hy
        · rw [Array.setIfInBounds_comm _ _ hji, ← Act.put_comm a v u h2]
          exact hrest
      refine ⟨hjn, ?_⟩
      obtain ⟨oj', hoj', hstep⟩ := hstep
      obtain rfl := Option.some.inj (hoj.symm.trans hoj')
      refine ⟨oj, hoj, ?_⟩
      rw [hwj, hex] at hstep
      rcases hstep with ⟨hgj, u, w', hrun, hC', hrest⟩ | ⟨hgj, fn, args, hrun, hrest⟩ | ⟨hgj, hC', hrest⟩ | ⟨hgj, w', hrun, hC', hrest⟩
      · exact .inl ⟨hgj, u, w', hrun, hC', next u w' hC' hrest⟩
      · exact .inr (.inl ⟨hgj, fn, args, hrun, hrest.mono fun e w'' ⟨u, he, hC', hk⟩ => ⟨u, he, hC', next u w'' hC' hk⟩⟩)
      · exact .inr (.inr (.inl ⟨hgj, hC', next undef w hC' hrest⟩))
      · exact .inr (.inr (.inr ⟨hgj, w', hrun, hC', next undef w' hC' hrest⟩))

/-- The places of the quiet ones, taken in this order; of the moves. -/
def mixH (md : Region.Mode) (ops : Array Oper) (n : Nat) : List Nat → Array Bool → Bool
  | [], _ => true
  | k :: ks, listed => (Region.ready md ops listed).contains k && Region.free md ops listed k && decide (k < n) && (match ops[k]? with | some o => valH o | none => false) && mixH md ops n ks (listed.setIfInBounds k true)
def mvOf (o : Oper) : Option Operand := match o.op with | .move x => some x | .assign x => some x | _ => none
def mixV (md : Region.Mode) (ops : Array Oper) (n : Nat) : List Nat → Array Bool → Bool
  | [], _ => true
  | k :: ks, listed => (Region.ready md ops listed).contains k && Region.free md ops listed k && decide (k < n) && (match ops[k]? with | some o => (mvOf o).isSome && o.guard.isNone | none => false) && mixV md ops n ks (listed.setIfInBounds k true)
/-- What moves make of the temporaries. -/
def movD : List Oper → Act → Act
  | [], a => a
  | o :: os, a => movD os (a.put o.dst (match mvOf o with | some x => a.eval x | none => undef))

theorem anyH_lex {done : Array Bool} (hsel : Region.noSelect ops = true) (hs : waitB md ops n done = true) (hc : Region.chainB md ops n = true) (hn : n < ops.size) (hdone : ∀ listed a w, L listed a w → ∀ j ∈ Region.ready md ops listed, n ≤ j) (g : Nat) (w : World) (hw : C w) :
    ∀ (ks : List Nat) (os : List Oper) (listed : Array Bool) (a : Act), os.map some = ks.map (ops[·]?) → HeadInv md ops n listed → (∀ k, done.getD k false = true → listed.getD k false = true) → mixH md ops n ks listed = true →
      wpQuiet P ops C (fun a' => anyH P md ops C n L g (listAll ks listed) a' w) os a → anyH P md ops C n L (ks.length + g) listed a w
  | [], os, listed, a, he, _, _, _, h => by
    have : os = [] := by simpa using he
    subst this
    rw [List.length_nil, Nat.zero_add]; exact h
  | k :: ks, os, listed, a, he, inv, hd, hB, h => by
    match os, he with
    | o :: os, he =>
      simp only [List.map_cons, List.cons.injEq] at he
      obtain ⟨ho, he⟩ := he
      simp only [mixH, ← ho, Bool.and_eq_true, decide_eq_true_eq] at hB
      obtain ⟨⟨⟨⟨hr, hf⟩, hk⟩, hv⟩, hB'⟩ := hB
      have hr' : k ∈ Region.ready md ops listed := by simpa using hr
      rw [List.length_cons, show ks.length + 1 + g = (ks.length + g) + 1 by omega]
      simp only [wpQuiet] at h
      cases hwt : Region.wanted o (yielded ops a.tmps)
      · simp only [hwt] at h
        exact anyH_first ho.symm hsel hs hc hn hk hdone _ listed a w hw inv hd (Region.free_spec ho.symm hf) hr' (.inr ⟨hwt, rfl⟩)
          (anyH_lex hsel hs hc hn hdone g w hw ks os _ _ he (inv.set hr' hk) (fun k hk => getD_set_true (hd k hk)) hB' h)
      · simp only [hwt, if_true] at h
        obtain ⟨v, hq, hnext⟩ := h
        exact anyH_first ho.symm hsel hs hc hn hk hdone _ listed a w hw inv hd (Region.free_spec ho.symm hf) hr' (.inl ⟨hwt, valH_of_quiet hv hq⟩)
          (anyH_lex hsel hs hc hn hdone g w hw ks os _ _ he (inv.set hr' hk) (fun k hk => getD_set_true (hd k hk)) hB' hnext)

theorem anyH_moves {done : Array Bool} (hsel : Region.noSelect ops = true) (hs : waitB md ops n done = true) (hc : Region.chainB md ops n = true) (hn : n < ops.size) (hdone : ∀ listed a w, L listed a w → ∀ j ∈ Region.ready md ops listed, n ≤ j) (g : Nat) (w : World) (hw : C w) :
    ∀ (ks : List Nat) (os : List Oper) (listed : Array Bool) (a : Act), os.map some = ks.map (ops[·]?) → HeadInv md ops n listed → (∀ k, done.getD k false = true → listed.getD k false = true) → mixV md ops n ks listed = true →
      anyH P md ops C n L g (listAll ks listed) (movD os a) w → anyH P md ops C n L (ks.length + g) listed a w
  | [], os, listed, a, he, _, _, _, h => by
    have : os = [] := by simpa using he
    subst this
    rw [List.length_nil, Nat.zero_add]; exact h
  | k :: ks, os, listed, a, he, inv, hd, hB, h => by
    match os, he with
    | o :: os, he =>
      simp only [List.map_cons, List.cons.injEq] at he
      obtain ⟨ho, he⟩ := he
      simp only [mixV, ← ho, Bool.and_eq_true, decide_eq_true_eq, Option.isNone_iff_eq_none] at hB
      obtain ⟨⟨⟨⟨hr, hf⟩, hk⟩, hv, hg⟩, hB'⟩ := hB
      have hr' : k ∈ Region.ready md ops listed := by simpa using hr
      rw [List.length_cons, show ks.length + 1 + g = (ks.length + g) + 1 by omega]
      obtain ⟨x, hx⟩ := Option.isSome_iff_exists.1 hv
      have hrun : ∀ w, (execOp a.eval o).run P w = .ok (.value (a.eval x)) w := fun w => by
        unfold mvOf at hx
        unfold execOp
        split at hx <;> rename_i heq <;> first
          | (cases hx; rw [heq]; rfl)
          | cases hx
      have h' : anyH P md ops C n L g (listAll ks (listed.setIfInBounds k true)) (movD os (a.put o.dst (a.eval x))) w := by
        have := h
        simp only [movD, hx] at this
        exact this
      exact anyH_first ho.symm hsel hs hc hn hk hdone _ listed a w hw inv hd (Region.free_spec ho.symm hf) hr' (.inl ⟨wanted_none hg _, fun w _ => hrun w⟩)
        (anyH_moves hsel hs hc hn hdone g w hw ks os _ _ he (inv.set hr' hk) (fun k hk => getD_set_true (hd k hk)) hB' h')

theorem mixH_ops {l : List Oper} {n : Nat} : ∀ (ks : List Nat) (listed : Array Bool), mixH md l.toArray n ks listed = true → (ks.filterMap fun k => l[k]?).map some = ks.map (l.toArray[·]?)
  | [], _, _ => rfl
  | k :: ks, listed, h => by
    simp only [mixH, Bool.and_eq_true] at h
    obtain ⟨⟨_, hv⟩, h'⟩ := h
    have ih := mixH_ops ks _ h'
    cases ho : l[k]? with
    | none => simp [ho] at hv
    | some o =>
      rw [List.filterMap_cons]
      simp only [ho, List.map_cons, ih]
      simp [ho]
theorem mixV_ops {l : List Oper} {n : Nat} : ∀ (ks : List Nat) (listed : Array Bool), mixV md l.toArray n ks listed = true → (ks.filterMap fun k => l[k]?).map some = ks.map (l.toArray[·]?)
  | [], _, _ => rfl
  | k :: ks, listed, h => by
    simp only [mixV, Bool.and_eq_true] at h
    obtain ⟨⟨_, hv⟩, h'⟩ := h
    have ih := mixV_ops ks _ h'
    cases ho : l[k]? with
    | none => simp [ho] at hv
    | some o =>
      rw [List.filterMap_cons]
      simp only [ho, List.map_cons, ih]
      simp [ho]

/-- What is listed behind the moves. -/
def doneV (l : List Oper) (ks1 : List Nat) : Array Bool := listAll ks1 (Array.replicate l.length false)
/-- All that is asked of the region's text. -/
def twoB (l : List Oper) (n1 : Nat) (ks1 : List Nat) (n2 : Nat) (ks2 : List Nat) : Bool :=
  Region.noSelect l.toArray && decide (n1 < l.length) && decide (n2 ≤ n1) && decide (ks1.length + ks2.length ≤ n2) && waitB .any l.toArray n1 (Array.replicate l.length false) && Region.chainB .any l.toArray n1 && mixV .any l.toArray n1 ks1 (Array.replicate l.length false) &&
    waitB .any l.toArray n2 (doneV l ks1) && Region.chainB .any l.toArray n2 && mixH .any l.toArray n2 ks2 (doneV l ks1) && ks1.all (fun k => decide (k < n2)) && (List.range l.length).all (fun t => decide (t < n2) || !(doneV l ks1).getD t true)

theorem inv_moves {l : List Oper} {n : Nat} : ∀ (ks : List Nat) (listed : Array Bool), HeadInv md l.toArray n listed → (∀ k ∈ ks, k < n) → ∀ n', mixV md l.toArray n' ks listed = true → HeadInv md l.toArray n (listAll ks listed)
  | [], _, inv, _, _, _ => inv
  | k :: ks, listed, inv, hk, n', h => by
    simp only [mixV, Bool.and_eq_true] at h
    obtain ⟨⟨⟨⟨hr, _⟩, _⟩, _⟩, h'⟩ := h
    have hr' : k ∈ Region.ready md l.toArray listed := by simpa using hr
    exact inv_moves ks _ (inv.set hr' (hk k (by simp))) (fun j hj => hk j (by simp [hj])) n' h'

/-- What stands behind the quiet ones: the rest of the head, stores among it, and the tail. -/
def restH (P : Program) (Q : Exit → Act → World → Prop) (l : List Oper) (n1 n2 : Nat) (listed : Array Bool) (a : Act) (w : World) : Prop :=
  (∀ j ∈ Region.ready .any l.toArray listed, n2 ≤ j) ∧ anyH P .any l.toArray (fun _ => True) n1 (tailC P Q l n1) (n1 - n2) listed a w

theorem wp_region_two {id : Nat} {Q : Exit → Act → World → Prop} {a : Act} {w : World} {l : List Oper} (n1 : Nat) (ks1 : List Nat) (n2 : Nat) (ks2 : List Nat) (hm : P.follows .mixedOrders = true) (hB : twoB l n1 ks1 n2 ks2 = true)
    (h : wpQuiet P l.toArray (fun w' => ∃ p : Regrown, w' = grow (redrawn w p.d) p.os) (fun a' => anyH P .any l.toArray (fun w' => ∃ p : Regrown, w' = grow (redrawn w p.d) p.os) n2 (restH P Q l n1 n2) (n2 - ks1.length - ks2.length) (listAll ks2 (doneV l ks1)) a' w.drew) (ks2.filterMap fun k => l[k]?) (movD (ks1.filterMap fun k => l[k]?) a)) :
    (Code.region id l.toArray true).wp P Q a w := by
  simp only [twoB, Bool.and_eq_true, decide_eq_true_eq, List.all_eq_true] at hB
  obtain ⟨⟨⟨⟨⟨⟨⟨⟨⟨⟨⟨hsel, hn⟩, hn12⟩, hkn⟩, hs1⟩, hc1⟩, hm1⟩, hs2⟩, hc2⟩, hm2⟩, hk1⟩, _⟩ := hB
  have hn' : n1 < l.toArray.size := by simpa using hn
  have hdl : (l.drop n1).length = l.length - n1 := by simp
  have inv1 : ∀ n, n ≤ n1 → HeadInv .any l.toArray n (Array.replicate l.length false) := fun n _ =>
    ⟨by simp, fun j oj _ hl => (by rw [getD_replicate_false] at hl; cases hl), fun t _ ht => getD_in (by simpa using ht) (getD_replicate_false _ _)⟩
  have inv2 : HeadInv .any l.toArray n2 (doneV l ks1) := inv_moves ks1 _ (inv1 n2 hn12) hk1 n1 hm1
  have H2 := anyH_lex (P := P) (md := .any) (L := restH P Q l n1 n2) hsel hs2 hc2 (by omega) (fun listed a w hL => hL.1) (n2 - ks1.length - ks2.length) w.drew ⟨⟨w.drawn + 1, #[]⟩, by rw [grow_empty]; rfl⟩ ks2 _ _ _ (mixH_ops ks2 _ hm2) inv2 (fun k hk => hk) hm2 h
  have H1 := anyH_trans (P := P) (C := fun _ => True) (n := n1) (L := tailC P Q l n1) (fun _ => trivial) hn12 (fun listed a w hL => hL.2) _ _ _ _ H2
  have H0 := anyH_moves (P := P) (md := .any) (C := fun _ => True) (L := tailC P Q l n1) hsel hs1 hc1 hn' (fun listed a w hL => seqB_ready hL.1) _ w.drew trivial ks1 _ _ a (mixV_ops ks1 _ hm1) (inv1 n1 (Nat.le_refl _)) (fun k hk => hk) hm1 H1
  have G := any_of_H (Q := Q) (g := l.length - n1) (fun listed a' w' hL => by
    have := wpAny_of_seq (P := P) (md := .any) (ops := l.toArray) (Q' := Q) (l.drop n1) n1 listed a' w' (fun j => by simp [List.getElem?_drop]) (by rw [hdl]; exact hL.1) hL.2
    rwa [hdl] at this) _ _ _ _ H0
  rw [show ks1.length + (ks2.length + (n2 - ks1.length - ks2.length) + (n1 - n2)) + (l.length - n1) = l.toArray.size by simp; omega] at G
  refine wp_region_any hm ?_
  simpa using G

theorem rest_of {Q : Exit → Act → World → Prop} {l : List Oper} {n1 n2 : Nat} {listed : Array Bool} {a : Act} {w : World} (rs : List Nat) (hr : Region.ready .any l.toArray listed = rs) (hn : (rs.all fun j => decide (n2 ≤ j)) = true) (h : anyH P .any l.toArray (fun _ => True) n1 (tailC P Q l n1) (n1 - n2) listed a w) : restH P Q l n1 n2 listed a w :=
  ⟨fun j hj => by rw [hr] at hj; exact of_decide_eq_true (List.all_eq_true.1 hn j hj), h⟩
/-- One that alone may come up, and hands back a value; that stores. -/
theorem oneH {f : Nat} {listed : Array Bool} {i : Nat} {oc : Oper} {a : Act} {w : World} (u : Value) (w' : World)
    (hc : ops[i]? = some oc ∧ i < n) (r0 : Region.ready md ops listed = [i]) (hw : Region.wanted oc (yielded ops a.tmps) = true)
    (run : (execOp a.eval oc).run P w = .ok (.value u) w') (hC : C w') (h : anyH P md ops C n L f (listed.setIfInBounds i true) (a.put oc.dst u) w') : anyH P md ops C n L (f + 1) listed a w := by
  refine ⟨by rw [r0]; simp, fun j hj => ?_⟩
  rw [r0] at hj
  obtain rfl := List.mem_singleton.1 hj
  exact ⟨hc.2, oc, hc.1, .inl ⟨hw, u, w', run, hC, h⟩⟩
theorem oneX {f : Nat} {listed : Array Bool} {i : Nat} {oc : Oper} {a : Act} {w : World}
    (hc : ops[i]? = some oc ∧ i < n) (r0 : Region.ready md ops listed = [i]) (hw : Region.wanted oc (yielded ops a.tmps) = true)
    (h : ∃ u w', (execOp a.eval oc).run P w = .ok (.value u) w' ∧ C w' ∧ anyH P md ops C n L f (listed.setIfInBounds i true) (a.put oc.dst u) w') : anyH P md ops C n L (f + 1) listed a w := by
  obtain ⟨u, w', run, hC, h⟩ := h
  exact oneH u w' hc r0 hw run hC h
theorem storeH {f : Nat} {listed : Array Bool} {i : Nat} {oc : Oper} {a : Act} {w : World} (w' : World)
    (hc : ops[i]? = some oc ∧ i < n) (r0 : Region.ready md ops listed = [i]) (hw : Region.wanted oc (yielded ops a.tmps) = true)
    (run : (execOp a.eval oc).run P w = .ok .skip w') (hC : C w') (h : anyH P md ops C n L f (listed.setIfInBounds i true) (a.put oc.dst undef) w') : anyH P md ops C n L (f + 1) listed a w := by
  refine ⟨by rw [r0]; simp, fun j hj => ?_⟩
  rw [r0] at hj
  obtain rfl := List.mem_singleton.1 hj
  exact ⟨hc.2, oc, hc.1, .inr (.inr (.inr ⟨hw, w', run, hC, h⟩))⟩

end
end

/-
  Laws on a region that draws its order, step by step: moves first, one that looks at no memory, a call. No program is named here.
-/
section
open Go.Sort

section
variable {P : Program}

/-- What is listed is closed, and none of the tail is. -/
def invB (ops : Array Oper) (n : Nat) (listed : Array Bool) : Bool :=
  listed.size == ops.size &&
  (List.range ops.size).all (fun j => !listed.getD j false || (match ops[j]? with | some o => o.after.all (fun e => !Region.binds .any e || listed.getD e.on false) | none => true)) &&
  (List.range ops.size).all (fun t => decide (t < n) || !listed.getD t true)
theorem inv_of {ops : Array Oper} {n : Nat} {listed : Array Bool} (h : invB ops n listed = true) : HeadInv .any ops n listed := by
  simp only [invB, Bool.and_eq_true, beq_iff_eq, List.all_eq_true, List.mem_range] at h
  obtain ⟨⟨h1, h2⟩, h3⟩ := h
  refine ⟨h1, fun j oj hj hl e he hb => ?_, fun t ht hts => ?_⟩
  · have hjs : j < ops.size := (Array.getElem?_eq_some_iff.1 hj).1
    have h4 := h2 j hjs
    rw [hl, hj] at h4
    simp only [Bool.not_true, Bool.false_or] at h4
    have h5 := (Array.all_eq_true'.1 h4) e he
    rw [hb] at h5
    simpa using h5
  · have h4 := h3 t hts
    simp only [Bool.or_eq_true, decide_eq_true_eq, Bool.not_eq_true'] at h4
    rcases h4 with h4 | h4
    · omega
    · exact h4

/-- One of the head that may be taken first. -/
def takeB (l : List Oper) (n : Nat) (listed : Array Bool) (i : Nat) : Bool :=
  Region.noSelect l.toArray && decide (n < l.length) && decide (i < n) && waitB .any l.toArray n (Array.replicate l.length false) && Region.chainB .any l.toArray n && (Region.ready .any l.toArray listed).contains i && Region.free .any l.toArray listed i && invB l.toArray n listed

theorem takeH {Q : Exit → Act → World → Prop} {l : List Oper} {n f : Nat} {listed : Array Bool} {i : Nat} {oi : Oper} {a : Act} {w : World} (v : Value) (hi : l.toArray[i]? = some oi) (hB : takeB l n listed i = true) (hw : Region.wanted oi (yielded l.toArray a.tmps) = true) (hrun : ∀ w, (execOp a.eval oi).run P w = .ok (.value v) w)
    (h : anyH P .any l.toArray (fun _ => True) n (tailC P Q l n) f (listed.setIfInBounds i true) (a.put oi.dst v) w) : anyH P .any l.toArray (fun _ => True) n (tailC P Q l n) (f + 1) listed a w := by
  simp only [takeB, Bool.and_eq_true, decide_eq_true_eq] at hB
  obtain ⟨⟨⟨⟨⟨⟨⟨hsel, hn⟩, hin⟩, hs⟩, hc⟩, hr⟩, hf⟩, hv⟩ := hB
  have hr' : i ∈ Region.ready .any l.toArray listed := by simpa using hr
  exact anyH_first hi hsel hs hc (by simpa using hn) hin (fun listed a w hL => seqB_ready hL.1) f listed a w trivial (inv_of hv) (fun k hk => by rw [getD_replicate_false] at hk; cases hk) (Region.free_spec hi hf) hr' (.inl ⟨hw, fun w _ => hrun w⟩) h

/-- Moves first. -/
def movesB (l : List Oper) (n : Nat) (ks : List Nat) : Bool :=
  Region.noSelect l.toArray && decide (n < l.length) && decide (ks.length ≤ n) && waitB .any l.toArray n (Array.replicate l.length false) && Region.chainB .any l.toArray n && mixV .any l.toArray n ks (Array.replicate l.length false)
theorem wp_region_moves {id : Nat} {Q : Exit → Act → World → Prop} {a : Act} {w : World} {l : List Oper} (n : Nat) (ks : List Nat) (hm : P.follows .mixedOrders = true) (hB : movesB l n ks = true)
    (h : anyH P .any l.toArray (fun _ => True) n (tailC P Q l n) (n - ks.length) (doneV l ks) (movD (ks.filterMap fun k => l[k]?) a) w.drew) : (Code.region id l.toArray true).wp P Q a w := by
  simp only [movesB, Bool.and_eq_true, decide_eq_true_eq] at hB
  obtain ⟨⟨⟨⟨⟨hsel, hn⟩, hkn⟩, hs1⟩, hc1⟩, hm1⟩ := hB
  have hn' : n < l.toArray.size := by simpa using hn
  have hdl : (l.drop n).length = l.length - n := by simp
  have inv1 : HeadInv .any l.toArray n (Array.replicate l.length false) :=
    ⟨by simp, fun j oj _ hl => (by rw [getD_replicate_false] at hl; cases hl), fun t _ ht => getD_in (by simpa using ht) (getD_replicate_false _ _)⟩
  have H0 := anyH_moves (P := P) (md := .any) (C := fun _ => True) (L := tailC P Q l n) hsel hs1 hc1 hn' (fun listed a w hL => seqB_ready hL.1) _ w.drew trivial ks _ _ a (mixV_ops ks _ hm1) inv1 (fun k hk => hk) hm1 h
  have G := any_of_H (Q := Q) (g := l.length - n) (fun listed a' w' hL => by
    have := wpAny_of_seq (P := P) (md := .any) (ops := l.toArray) (Q' := Q) (l.drop n) n listed a' w' (fun j => by simp [List.getElem?_drop]) (by rw [hdl]; exact hL.1) hL.2
    rwa [hdl] at this) _ _ _ _ H0
  rw [show ks.length + (n - ks.length) + (l.length - n) = l.toArray.size by simp; omega] at G
  refine wp_region_any hm ?_
  simpa using G

variable {ops : Array Oper} {C : World → Prop} {n : Nat} {L : Array Bool → Act → World → Prop}
/-- Two may come up. -/
theorem twoH {f : Nat} {listed : Array Bool} {a : Act} {w : World} (i j : Nat) (r0 : Region.ready .any ops listed = [i, j]) (hin : i < n ∧ j < n)
    (hi : stepH P ops i (fun a' w' => C w' ∧ anyH P .any ops C n L f (listed.setIfInBounds i true) a' w') a w) (hj : stepH P ops j (fun a' w' => C w' ∧ anyH P .any ops C n L f (listed.setIfInBounds j true) a' w') a w) : anyH P .any ops C n L (f + 1) listed a w := by
  refine ⟨by rw [r0]; simp, fun k hk => ?_⟩
  rw [r0] at hk
  rcases List.mem_cons.1 hk with rfl | hk
  · exact ⟨hin.1, hi⟩
  · obtain rfl := List.mem_singleton.1 hk
    exact ⟨hin.2, hj⟩
theorem stepH_value {i : Nat} {K : Act → World → Prop} {oc : Oper} {a : Act} {w : World} (u : Value) (w' : World) (hc : ops[i]? = some oc) (hw : Region.wanted oc (yielded ops a.tmps) = true) (run : (execOp a.eval oc).run P w = .ok (.value u) w') (hk : K (a.put oc.dst u) w') : stepH P ops i K a w :=
  ⟨oc, hc, .inl ⟨hw, u, w', run, hk⟩⟩
theorem stepH_call {i : Nat} {K : Act → World → Prop} {oc : Oper} {a : Act} {w : World} {fn : FuncId} {args : Array Value} (hc : ops[i]? = some oc) (hw : Region.wanted oc (yielded ops a.tmps) = true) (run : (execOp a.eval oc).run P w = .ok (.enter fn args) w) (con : Calls P fn args w fun e w' => ∃ v, e = .returned v ∧ K (a.put oc.dst v) w') : stepH P ops i K a w :=
  ⟨oc, hc, .inr (.inl ⟨hw, fn, args, run, con⟩)⟩
theorem callH {f : Nat} {listed : Array Bool} {i : Nat} {oc : Oper} {a : Act} {w : World} {fn : FuncId} {args : Array Value} (hc : ops[i]? = some oc ∧ i < n) (r0 : Region.ready .any ops listed = [i]) (hw : Region.wanted oc (yielded ops a.tmps) = true)
    (run : (execOp a.eval oc).run P w = .ok (.enter fn args) w) (con : Calls P fn args w fun e w' => ∃ v, e = .returned v ∧ C w' ∧ anyH P .any ops C n L f (listed.setIfInBounds i true) (a.put oc.dst v) w') : anyH P .any ops C n L (f + 1) listed a w := by
  refine ⟨by rw [r0]; simp, fun j hj => ?_⟩
  rw [r0] at hj
  obtain rfl := List.mem_singleton.1 hj
  exact ⟨hc.2, stepH_call hc.1 hw run con⟩

end
end

/-
  Laws on a region that draws its order, step by step, with the place that is written told: what is put stays small. No program is named here.
-/
section
open Go.Sort

section
variable {P : Program}
theorem takeHd {Q : Exit → Act → World → Prop} {l : List Oper} {n f : Nat} {listed : Array Bool} {i d : Nat} {oi : Oper} {a : Act} {w : World} (v : Value) (hi : l.toArray[i]? = some oi ∧ oi.dst = some d) (hB : takeB l n listed i = true) (hw : Region.wanted oi (yielded l.toArray a.tmps) = true) (hrun : ∀ w, (execOp a.eval oi).run P w = .ok (.value v) w)
    (h : anyH P .any l.toArray (fun _ => True) n (tailC P Q l n) f (listed.setIfInBounds i true) (a.put (some d) v) w) : anyH P .any l.toArray (fun _ => True) n (tailC P Q l n) (f + 1) listed a w := by
  obtain ⟨h1, h2⟩ := hi
  refine takeH v h1 hB hw hrun ?_
  rw [h2]; exact h
variable {ops : Array Oper} {C : World → Prop} {n : Nat} {L : Array Bool → Act → World → Prop}
theorem oneHd {f : Nat} {listed : Array Bool} {i d : Nat} {oc : Oper} {a : Act} {w : World} (u : Value) (w' : World)
    (hc : ops[i]? = some oc ∧ oc.dst = some d) (hin : i < n) (r0 : Region.ready .any ops listed = [i]) (hw : Region.wanted oc (yielded ops a.tmps) = true)
    (run : (execOp a.eval oc).run P w = .ok (.value u) w') (hC : C w') (h : anyH P .any ops C n L f (listed.setIfInBounds i true) (a.put (some d) u) w') : anyH P .any ops C n L (f + 1) listed a w := by
  refine oneH u w' ⟨hc.1, hin⟩ r0 hw run hC ?_
  rw [hc.2]; exact h
theorem stepHd {i d : Nat} {K : Act → World → Prop} {oc : Oper} {a : Act} {w : World} (u : Value) (w' : World) (hc : ops[i]? = some oc ∧ oc.dst = some d) (hw : Region.wanted oc (yielded ops a.tmps) = true) (run : (execOp a.eval oc).run P w = .ok (.value u) w') (hk : K (a.put (some d) u) w') : stepH P ops i K a w := by
  refine stepH_value u w' hc.1 hw run ?_
  rw [hc.2]; exact hk
theorem stepHc {i d : Nat} {K : Act → World → Prop} {oc : Oper} {a : Act} {w : World} {fn : FuncId} {args : Array Value} (hc : ops[i]? = some oc ∧ oc.dst = some d) (hw : Region.wanted oc (yielded ops a.tmps) = true) (run : (execOp a.eval oc).run P w = .ok (.enter fn args) w) (con : Calls P fn args w fun e w' => ∃ v, e = .returned v ∧ K (a.put (some d) v) w') : stepH P ops i K a w :=
  stepH_call hc.1 hw run (con.mono fun e w' ⟨v, he, hk⟩ => ⟨v, he, by rw [hc.2]; exact hk⟩)
theorem callHd {f : Nat} {listed : Array Bool} {i d : Nat} {oc : Oper} {a : Act} {w : World} {fn : FuncId} {args : Array Value} (hc : ops[i]? = some oc ∧ oc.dst = some d) (hin : i < n) (r0 : Region.ready .any ops listed = [i]) (hw : Region.wanted oc (yielded ops a.tmps) = true)
    (run : (execOp a.eval oc).run P w = .ok (.enter fn args) w) (con : Calls P fn args w fun e w' => ∃ v, e = .returned v ∧ C w' ∧ anyH P .any ops C n L f (listed.setIfInBounds i true) (a.put (some d) v) w') : anyH P .any ops C n L (f + 1) listed a w :=
  callH ⟨hc.1, hin⟩ r0 hw run (con.mono fun e w' ⟨v, he, h1, h2⟩ => ⟨v, he, h1, by rw [hc.2]; exact h2⟩)
theorem storeHd {f : Nat} {listed : Array Bool} {i : Nat} {oc : Oper} {a : Act} {w : World} (w' : World)
    (hc : ops[i]? = some oc ∧ oc.dst = none) (hin : i < n) (r0 : Region.ready .any ops listed = [i]) (hw : Region.wanted oc (yielded ops a.tmps) = true)
    (run : (execOp a.eval oc).run P w = .ok .skip w') (hC : C w') (h : anyH P .any ops C n L f (listed.setIfInBounds i true) a w') : anyH P .any ops C n L (f + 1) listed a w := by
  refine storeH w' ⟨hc.1, hin⟩ r0 hw run hC ?_
  rw [hc.2]; exact h
end
end

/-
  Laws on a region that draws its order, step by step, in a class of worlds. No program is named here.
-/
section
open Go.Sort

section
variable {P : Program}
/-- The same laws in a class of worlds: what only reads what is the same in all of them is taken first. -/
theorem wp_region_movesC {id : Nat} {Q : Exit → Act → World → Prop} {a : Act} {w : World} {l : List Oper} (C : World → Prop) (n : Nat) (ks : List Nat) (hm : P.follows .mixedOrders = true) (hB : movesB l n ks = true) (hC : C w.drew)
    (h : anyH P .any l.toArray C n (tailC P Q l n) (n - ks.length) (doneV l ks) (movD (ks.filterMap fun k => l[k]?) a) w.drew) : (Code.region id l.toArray true).wp P Q a w := by
  simp only [movesB, Bool.and_eq_true, decide_eq_true_eq] at hB
  obtain ⟨⟨⟨⟨⟨hsel, hn⟩, hkn⟩, hs1⟩, hc1⟩, hm1⟩ := hB
  have hn' : n < l.toArray.size := by simpa using hn
  have hdl : (l.drop n).length = l.length - n := by simp
  have inv1 : HeadInv .any l.toArray n (Array.replicate l.length false) :=
    ⟨by simp, fun j oj _ hl => (by rw [getD_replicate_false] at hl; cases hl), fun t _ ht => getD_in (by simpa using ht) (getD_replicate_false _ _)⟩
  have H0 := anyH_moves (P := P) (md := .any) (C := C) (L := tailC P Q l n) hsel hs1 hc1 hn' (fun listed a w hL => seqB_ready hL.1) _ w.drew hC ks _ _ a (mixV_ops ks _ hm1) inv1 (fun k hk => hk) hm1 h
  have G := any_of_H (Q := Q) (g := l.length - n) (fun listed a' w' hL => by
    have := wpAny_of_seq (P := P) (md := .any) (ops := l.toArray) (Q' := Q) (l.drop n) n listed a' w' (fun j => by simp [List.getElem?_drop]) (by rw [hdl]; exact hL.1) hL.2
    rwa [hdl] at this) _ _ _ _ H0
  rw [show ks.length + (n - ks.length) + (l.length - n) = l.toArray.size by simp; omega] at G
  refine wp_region_any hm ?_
  simpa using G
theorem takeHQ {C : World → Prop} {Q : Exit → Act → World → Prop} {l : List Oper} {n f : Nat} {listed : Array Bool} {i d : Nat} {oi : Oper} {a : Act} {w : World} (v : Value) (hi : l.toArray[i]? = some oi ∧ oi.dst = some d) (hB : takeB l n listed i = true) (hw : Region.wanted oi (yielded l.toArray a.tmps) = true) (hC : C w) (hrun : ∀ w, C w → (execOp a.eval oi).run P w = .ok (.value v) w)
    (h : anyH P .any l.toArray C n (tailC P Q l n) f (listed.setIfInBounds i true) (a.put (some d) v) w) : anyH P .any l.toArray C n (tailC P Q l n) (f + 1) listed a w := by
  obtain ⟨h1, h2⟩ := hi
  simp only [takeB, Bool.and_eq_true, decide_eq_true_eq] at hB
  obtain ⟨⟨⟨⟨⟨⟨⟨hsel, hn⟩, hin⟩, hs⟩, hc⟩, hr⟩, hf⟩, hv⟩ := hB
  have hr' : i ∈ Region.ready .any l.toArray listed := by simpa using hr
  refine anyH_first h1 hsel hs hc (by simpa using hn) hin (fun listed a w hL => seqB_ready hL.1) f listed a w hC (inv_of hv) (fun k hk => by rw [getD_replicate_false] at hk; cases hk) (Region.free_spec h1 hf) hr' (.inl ⟨hw, hrun⟩) ?_
  rw [h2]; exact h
end
end

/-
  Laws on a region that draws its order, all of it, with no tail that waits for the rest. No program is named here.
-/
section
open Go.Sort

section
variable {P : Program} {md : Region.Mode} {ops : Array Oper} {C : World → Prop} {L : Array Bool → Act → World → Prop}
theorem ready_lt {listed : Array Bool} {j : Nat} (h : j ∈ Region.ready md ops listed) : j < ops.size := by
  obtain ⟨_, o, ho, _⟩ := mem_ready.1 h
  exact (Array.getElem?_eq_some_iff.1 ho).1
theorem anyA_first {i : Nat} {oi : Oper} {v : Value} (hi : ops[i]? = some oi) (hsel : Region.noSelect ops = true) (hL0 : ∀ listed a w, L listed a w → Region.ready md ops listed = []) :
    ∀ (f : Nat) (listed : Array Bool) (a : Act) (w : World), C w →
      (∀ j oj, ops[j]? = some oj → j ≠ i → listed.getD j true = false → (∀ e ∈ oj.after, Region.binds md e = true → e.on ≠ i) → oi.apart ops oj = true) →
      i ∈ Region.ready md ops listed → (Region.wanted oi (yielded ops a.tmps) = true ∧ ∀ w, C w → (execOp a.eval oi).run P w = .ok (.value v) w) →
      anyH P md ops C ops.size L f (listed.setIfInBounds i true) (a.put oi.dst v) w → anyH P md ops C ops.size L (f + 1) listed a w := by
  intro f
  have self : ∀ (listed : Array Bool) (a : Act) (w : World) (f : Nat), C w → (Region.wanted oi (yielded ops a.tmps) = true ∧ ∀ w, C w → (execOp a.eval oi).run P w = .ok (.value v) w) →
      anyH P md ops C ops.size L f (listed.setIfInBounds i true) (a.put oi.dst v) w → stepH P ops i (fun a' w' => C w' ∧ anyH P md ops C ops.size L f (listed.setIfInBounds i true) a' w') a w := by
    intro listed a w f hw hy H
    exact ⟨oi, hi, .inl ⟨hy.1, v, w, hy.2 w hw, hw, H⟩⟩
  induction f with
  | zero =>
    intro listed a w hw _ hr hy H
    refine ⟨(fun h => by rw [h] at hr; cases hr), fun j hj => ?_⟩
    by_cases hji : j = i
    · subst hji; exact ⟨ready_lt hj, self _ _ _ _ hw hy H⟩
    · have h1 := ready_mono hj hji
      rw [hL0 _ _ _ H] at h1
      cases h1
  | succ f ih =>
    intro listed a w hw hfree hr hy H
    refine ⟨(fun h => by rw [h] at hr; cases hr), fun j hj => ?_⟩
    by_cases hji : j = i
    · subst hji; exact ⟨ready_lt hj, self _ _ _ _ hw hy H⟩
    · obtain ⟨hjn, hstep⟩ := H.2 j (ready_mono hj hji)
      obtain ⟨hjun, oj, hoj, hall⟩ := mem_ready.1 hj
      have hiun := (mem_ready.1 hr).1
      have hnot : ∀ e ∈ oj.after, Region.binds md e = true → e.on ≠ i := fun e he hb heq => by
        have h1 := hall e he hb
        rw [heq, getD_both hiun] at h1
        cases h1
      obtain ⟨h1, h2, h3⟩ := Oper.apart_spec (hfree j oj hoj hji hjun hnot)
      have hex : execOp (a.put oi.dst v).eval oj = execOp a.eval oj := execOp_put (ops := ops) oj (fun cs b => Region.noSelect_spec hsel j oj cs b hoj) a oi.dst v h1
      have hwj : Region.wanted oj (yielded ops (a.put oi.dst v).tmps) = Region.wanted oj (yielded ops a.tmps) := wanted_put oj a oi.dst v h1
      have next : ∀ u w', C w' → anyH P md ops C ops.size L f ((listed.setIfInBounds i true).setIfInBounds j true) ((a.put oi.dst v).put oj.dst u) w' → anyH P md ops C ops.size L (f + 1) (listed.setIfInBounds j true) (a.put oj.dst u) w' := by
        intro u w' hC' hrest
        refine ih (listed.setIfInBounds j true) (a.put oj.dst u) w' hC' ?_ (ready_mono hr (Ne.symm hji)) ?_ ?_
        · intro k ok hk hki hun hno
          refine hfree k ok hk hki ?_ hno
          by_cases hjk : j = k
          · subst hjk; exact hjun
          · rw [getD_set_ne true hjk] at hun; exact hun
        · rw [wanted_put oi a oj.dst u h3, execOp_put (ops := ops) oi (fun cs b => Region.noSelect_spec hsel i oi cs b hi) a oj.dst u h3]
          exact hy
        · rw [Array.setIfInBounds_comm _ _ hji, ← Act.put_comm a v u h2]
          exact hrest
      refine ⟨hjn, ?_⟩
      obtain ⟨oj', hoj', hstep⟩ := hstep
      obtain rfl := Option.some.inj (hoj.symm.trans hoj')
      refine ⟨oj, hoj, ?_⟩
      rw [hwj, hex] at hstep
      rcases hstep with ⟨hgj, u, w', hrun, hC', hrest⟩ | ⟨hgj, fn, args, hrun, hrest⟩ | ⟨hgj, hC', hrest⟩ | ⟨hgj, w', hrun, hC', hrest⟩
      · exact .inl ⟨hgj, u, w', hrun, hC', next u w' hC' hrest⟩
      · exact .inr (.inl ⟨hgj, fn, args, hrun, hrest.mono fun e w'' ⟨u, he, hC', hk⟩ => ⟨u, he, hC', next u w'' hC' hk⟩⟩)
      · exact .inr (.inr (.inl ⟨hgj, hC', next undef w hC' hrest⟩))
      · exact .inr (.inr (.inr ⟨hgj, w', hrun, hC', next undef w' hC' hrest⟩))
end

section
variable {P : Program}
/-- All are done. -/
def allC (Q : Exit → Act → World → Prop) (ops : Array Oper) (listed : Array Bool) (a : Act) (w : World) : Prop := Region.ready .any ops listed = [] ∧ Q .normal a w
theorem wp_region_all {id : Nat} {Q : Exit → Act → World → Prop} {a : Act} {w : World} {l : List Oper} (C : World → Prop) (hm : P.follows .mixedOrders = true)
    (h : anyH P .any l.toArray C l.toArray.size (allC Q l.toArray) l.toArray.size (Array.replicate l.toArray.size false) a w.drew) : (Code.region id l.toArray true).wp P Q a w := by
  refine wp_region_any hm ?_
  have G := any_of_H (P := P) (md := .any) (Q := Q) (g := 0) (fun listed a' w' hL => hL) _ _ _ _ h
  exact G
def takeAB (l : List Oper) (listed : Array Bool) (i : Nat) : Bool :=
  Region.noSelect l.toArray && (Region.ready .any l.toArray listed).contains i && Region.free .any l.toArray listed i
theorem takeA {C : World → Prop} {Q : Exit → Act → World → Prop} {l : List Oper} {f : Nat} {listed : Array Bool} {i d : Nat} {oi : Oper} {a : Act} {w : World} (v : Value) (hi : l.toArray[i]? = some oi ∧ oi.dst = some d) (hB : takeAB l listed i = true) (hw : Region.wanted oi (yielded l.toArray a.tmps) = true) (hC : C w) (hrun : ∀ w, C w → (execOp a.eval oi).run P w = .ok (.value v) w)
    (h : anyH P .any l.toArray C l.toArray.size (allC Q l.toArray) f (listed.setIfInBounds i true) (a.put (some d) v) w) : anyH P .any l.toArray C l.toArray.size (allC Q l.toArray) (f + 1) listed a w := by
  obtain ⟨h1, h2⟩ := hi
  simp only [takeAB, Bool.and_eq_true] at hB
  obtain ⟨⟨hsel, hr⟩, hf⟩ := hB
  refine anyA_first h1 hsel (fun listed a w hL => hL.1) f listed a w hC (Region.free_spec h1 hf) (by simpa using hr) ⟨hw, hrun⟩ ?_
  rw [h2]; exact h
end
end

/-
  A law on a region that draws its order: operations that only make new memory, calls among them, in whatever order; what each hands back is known behind all of them. No program is named here.
-/
section
open Go.RowKit Go.Sort

/-- An operation: its place, its destination, whom it waits for, what is known of its value. -/
structure Gn where
  i : Nat
  d : Nat
  uses : List Nat
  F : World → Value → Prop

def offG (M : List Gn) (k : Nat) : Prop := ∀ m ∈ M, m.d ≠ k
structure AgreeG (M : List Gn) (b a0 : Act) : Prop where
  size : b.tmps.size = a0.tmps.size
  defers : b.defers = a0.defers
  off : ∀ k, offG M k → b.eval (.tmp k) = a0.eval (.tmp k)
def putG (a0 : Act) (M : List Gn) (v : Nat → Value) : Act := M.foldl (fun a m => a.put (some m.d) (v m.d)) a0

theorem putG_size (v : Nat → Value) : ∀ (M : List Gn) (a0 : Act), (putG a0 M v).tmps.size = a0.tmps.size ∧ (putG a0 M v).defers = a0.defers
  | [], a0 => ⟨rfl, rfl⟩
  | m :: M, a0 => by
    obtain ⟨h1, h2⟩ := putG_size v M (a0.put (some m.d) (v m.d))
    exact ⟨h1.trans (put_size _ _ _), h2⟩
theorem putG_off (v : Nat → Value) : ∀ (M : List Gn) (a0 : Act) (k : Nat), offG M k → (putG a0 M v).eval (.tmp k) = a0.eval (.tmp k)
  | [], a0, k, _ => rfl
  | m :: M, a0, k, h => by
    have h1 := putG_off v M (a0.put (some m.d) (v m.d)) k (fun x hx => h x (List.mem_cons_of_mem _ hx))
    exact h1.trans (eval_ne (Ne.symm (h m List.mem_cons_self)))
theorem putG_in (v : Nat → Value) : ∀ (M : List Gn) (a0 : Act) (k : Nat), k < a0.tmps.size → (∃ m ∈ M, m.d = k) → (putG a0 M v).eval (.tmp k) = v k
  | [], a0, k, _, h => by obtain ⟨m, hm, _⟩ := h; cases hm
  | m :: M, a0, k, hk, h => by
    by_cases hr : ∃ x ∈ M, x.d = k
    · exact putG_in v M (a0.put (some m.d) (v m.d)) k (by rw [put_size]; exact hk) hr
    · have hd : m.d = k := by
        obtain ⟨x, hx, e⟩ := h
        rcases List.mem_cons.1 hx with rfl | hx
        · exact e
        · exact absurd ⟨x, hx, e⟩ hr
      have h1 := putG_off v M (a0.put (some m.d) (v m.d)) k (fun x hx e => hr ⟨x, hx, e⟩)
      rw [hd] at h1
      refine Eq.trans ?_ (h1.trans (eval_at hk))
      show (putG (a0.put (some m.d) (v m.d)) M v).eval (.tmp k) = _
      rw [hd]
theorem act_extG {a b : Act} (hs : a.tmps.size = b.tmps.size) (hd : a.defers = b.defers) (h : ∀ k, a.eval (.tmp k) = b.eval (.tmp k)) : a = b := by
  obtain ⟨ta, da⟩ := a
  obtain ⟨tb, db⟩ := b
  simp only at hs hd
  subst hd
  congr 1
  apply Array.ext hs
  intro k h1 h2
  have := h k
  simpa [Act.eval, h1, h2] using this
theorem AgreeG.all {M : List Gn} {b a0 : Act} (h : AgreeG M b a0) (hd : ∀ m ∈ M, m.d < a0.tmps.size) : b = putG a0 M (fun k => b.eval (.tmp k)) := by
  obtain ⟨s1, s2⟩ := putG_size (fun k => b.eval (.tmp k)) M a0
  refine act_extG (h.size.trans s1.symm) (h.defers.trans s2.symm) (fun k => ?_)
  by_cases hk : ∃ m ∈ M, m.d = k
  · obtain ⟨m, hm, rfl⟩ := hk
    rw [putG_in _ M a0 m.d (hd m hm) ⟨m, hm, rfl⟩]
  · have ho : offG M k := fun m hm e => hk ⟨m, hm, e⟩
    rw [putG_off _ M a0 k ho, h.off k ho]

section
variable {P : Program} {md : Region.Mode} {ops : Array Oper}
/-- What an operation of these does, wherever the others stand. -/
def StepW (P : Program) (W : World) (a0 : Act) (M : List Gn) (nd : Gn) (o : Oper) : Prop :=
  ∀ (b : Act) (w : World), AgreeG M b a0 → Below W.heap.size W w → (∀ m ∈ M, m.i ∈ nd.uses → m.F w (b.eval (.tmp m.d))) →
    (∃ u w', (execOp b.eval o).run P w = .ok (.value u) w' ∧ nd.F w' u ∧ Below w.heap.size w w') ∨
    (∃ fn args, (execOp b.eval o).run P w = .ok (.enter fn args) w ∧ Calls P fn args w fun e w' => ∃ u, e = .returned u ∧ nd.F w' u ∧ Below w.heap.size w w')
def roomG (md : Region.Mode) (ops : Array Oper) (is : List (Nat × List Nat)) (fin : Array Bool) : Nat → Array Bool → Bool
  | 0, listed => decide (listed = fin)
  | f + 1, listed => !(Region.ready md ops listed).isEmpty && (Region.ready md ops listed).all fun i =>
      (is.any fun m => m.1 == i) && (is.all fun m => !(m.1 == i) || m.2.all fun u => listed.getD u false) && roomG md ops is fin f (listed.setIfInBounds i true)

theorem grow_any {C : World → Prop} {n : Nat} {L : Array Bool → Act → World → Prop} {W : World} {a0 : Act} {M : List Gn} {fin : Array Bool} (hop : ∀ m ∈ M, ∃ o, ops[m.i]? = some o ∧ o.guard = none ∧ o.dst = some m.d ∧ m.i < n ∧ StepW P W a0 M m o)
    (hst : ∀ m ∈ M, ∀ (w w' : World) (v : Value), Below w.heap.size w w' → m.F w v → m.F w' v) (hi : ∀ m ∈ M, ∀ m' ∈ M, m.i = m'.i → m = m') (hdd : ∀ m ∈ M, ∀ m' ∈ M, m.d = m'.d → m.i = m'.i) (hd : ∀ m ∈ M, m.d < a0.tmps.size) (hfin : ∀ m ∈ M, fin.getD m.i false = true)
    (hC : ∀ w, Below W.heap.size W w → C w)
    (K : ∀ (v : Nat → Value) (w : World), Below W.heap.size W w → (∀ m ∈ M, m.F w (v m.d)) → L fin (putG a0 M v) w) :
    ∀ (f : Nat) (listed : Array Bool) (a : Act) (w : World), roomG md ops (M.map fun m => (m.i, m.uses)) fin f listed = true → Below W.heap.size W w → AgreeG M a a0 →
      (∀ m ∈ M, listed.getD m.i false = true → m.F w (a.eval (.tmp m.d))) → anyH P md ops C n L f listed a w := by
  intro f
  induction f with
  | zero =>
    intro listed a w hr hb hA ho
    simp only [roomG, decide_eq_true_eq] at hr
    subst hr
    show L listed a w
    rw [hA.all hd]
    exact K _ w hb (fun m hm => ho m hm (hfin m hm))
  | succ f ih =>
    intro listed a w hr hb hA ho
    simp only [roomG, Bool.and_eq_true, Bool.not_eq_true', List.all_eq_true] at hr
    obtain ⟨hne, hall⟩ := hr
    refine ⟨fun e => by rw [e] at hne; simp at hne, fun i hready => ?_⟩
    obtain ⟨⟨hin, hus⟩, hnext⟩ := hall i hready
    obtain ⟨p, hp, hpi⟩ := List.any_eq_true.1 hin
    obtain ⟨nd, hnd, rfl⟩ := List.mem_map.1 hp
    have hni : nd.i = i := by simpa using hpi
    subst hni
    obtain ⟨o, h1, h2, h3, h4, hstep⟩ := hop nd hnd
    have hw : Region.wanted o (yielded ops a.tmps) = true := wanted_none h2 _
    have hu : ∀ m ∈ M, m.i ∈ nd.uses → m.F w (a.eval (.tmp m.d)) := fun m hm hmu => by
      have h5 := hus _ hp
      simp only [Bool.or_eq_true, Bool.not_eq_true', beq_eq_false_iff_ne, ne_eq, List.all_eq_true] at h5
      rcases h5 with h5 | h5
      · exact absurd trivial h5
      · exact ho m hm (h5 m.i hmu)
    have next : ∀ u w', nd.F w' u → Below w.heap.size w w' → C w' ∧ anyH P md ops C n L f (listed.setIfInBounds nd.i true) (a.put o.dst u) w' := fun u w' hF hbw => by
      have hb' : Below W.heap.size W w' := hb.trans (hbw.mono hb.size)
      refine ⟨hC w' hb', ?_⟩
      rw [h3]
      refine ih _ _ _ hnext hb' ⟨(put_size _ _ _).trans hA.size, hA.defers, fun k hk => (eval_ne (Ne.symm (hk nd hnd))).trans (hA.off k hk)⟩ (fun m hm hl => ?_)
      by_cases e : m = nd
      · subst e
        rw [eval_at (by rw [hA.size]; exact hd m hm)]
        exact hF
      · have hne' : m.i ≠ nd.i := fun h => e (hi m hm nd hnd h)
        rw [show (a.put (some nd.d) u).eval (.tmp m.d) = a.eval (.tmp m.d) from eval_ne (fun h => hne' (hdd m hm nd hnd h))]
        rw [getD_set_ne false (Ne.symm hne')] at hl
        exact hst m hm w w' _ hbw (ho m hm hl)
    refine ⟨h4, ?_⟩
    rcases hstep a w hA hb hu with ⟨u, w', hrun, hF, hbw⟩ | ⟨fn, args, hrun, hcall⟩
    · exact ⟨o, h1, .inl ⟨hw, u, w', hrun, next u w' hF hbw⟩⟩
    · exact ⟨o, h1, .inr (.inl ⟨hw, fn, args, hrun, hcall.mono fun e w' ⟨u, he, hF, hbw⟩ => ⟨u, he, next u w' hF hbw⟩⟩)⟩
end

section
variable {P : Program}
theorem off_of {M : List Gn} (k : Nat) (h : (M.map fun m => m.d).all (fun d => decide (d ≠ k)) = true) : offG M k := fun m hm => by
  have := List.all_eq_true.1 h m.d (List.mem_map.2 ⟨m, hm, rfl⟩)
  simpa using this
def finG (M : List Gn) (listed : Array Bool) : Array Bool := M.foldl (fun l m => l.setIfInBounds m.i true) listed
def finI (is : List (Nat × Nat × List Nat)) (listed : Array Bool) : Array Bool := is.foldl (fun l m => l.setIfInBounds m.1 true) listed
theorem finG_eq (M : List Gn) (listed : Array Bool) : finG M listed = finI (M.map fun m => (m.i, m.d, m.uses)) listed := by
  unfold finG finI
  rw [List.foldl_map]
/-- All that is asked of the region's text. -/
def growB (l : List Oper) (is : List (Nat × Nat × List Nat)) (n f : Nat) (listed : Array Bool) : Bool :=
  roomG .any l.toArray (is.map fun m => (m.1, m.2.2)) (finI is listed) f listed &&
  is.all (fun m => !listed.getD m.1 false && (finI is listed).getD m.1 false && decide (m.1 < n) && (match l[m.1]? with | some o => o.guard.isNone && decide (o.dst = some m.2.1) | none => false)) &&
  decide ((is.map fun m => m.1).Nodup) && decide ((is.map fun m => m.2.1).Nodup)
theorem nodup_inj {α : Type} {f : α → Nat} : ∀ {l : List α}, (l.map f).Nodup → ∀ x ∈ l, ∀ y ∈ l, f x = f y → x = y
  | [], _, x, hx, _, _, _ => by cases hx
  | z :: l, h, x, hx, y, hy, e => by
    rw [List.map_cons, List.nodup_cons] at h
    rcases List.mem_cons.1 hx with rfl | hx' <;> rcases List.mem_cons.1 hy with rfl | hy'
    · rfl
    · exact absurd (e ▸ List.mem_map.2 ⟨y, hy', rfl⟩) h.1
    · exact absurd (e ▸ List.mem_map.2 ⟨x, hx', rfl⟩) h.1
    · exact nodup_inj h.2 x hx' y hy' e
theorem grow_all {C : World → Prop} {n f : Nat} {L : Array Bool → Act → World → Prop} {W : World} {a : Act} {listed : Array Bool} {l : List Oper} (M : List Gn) (hB : growB l (M.map fun m => (m.i, m.d, m.uses)) n f listed = true) (hsz : (M.map fun m => m.d).all (fun d => decide (d < a.tmps.size)) = true)
    (hst : ∀ m ∈ M, ∀ (w w' : World) (v : Value), Below w.heap.size w w' → m.F w v → m.F w' v) (hS : ∀ m ∈ M, ∃ o, l.toArray[m.i]? = some o ∧ StepW P W a M m o) (hC : ∀ w, Below W.heap.size W w → C w)
    (K : ∀ (v : Nat → Value) (w : World), Below W.heap.size W w → (∀ m ∈ M, m.F w (v m.d)) → L (finG M listed) (putG a M v) w) : anyH P .any l.toArray C n L f listed a W := by
  simp only [growB, Bool.and_eq_true, decide_eq_true_eq] at hB
  obtain ⟨⟨⟨h1, h2⟩, h3⟩, h4⟩ := hB
  rw [← finG_eq, List.map_map] at h1
  rw [List.map_map] at h3 h4
  have at_ : ∀ m ∈ M, listed.getD m.i false = false ∧ (finG M listed).getD m.i false = true ∧ m.i < n ∧ ∃ o, l[m.i]? = some o ∧ o.guard = none ∧ o.dst = some m.d := fun m hm => by
    have h5 := List.all_eq_true.1 h2 _ (List.mem_map.2 ⟨m, hm, rfl⟩)
    simp only [Bool.and_eq_true, Bool.not_eq_true', decide_eq_true_eq] at h5
    obtain ⟨⟨⟨q1, q2⟩, q3⟩, q4⟩ := h5
    rw [← finG_eq] at q2
    refine ⟨q1, q2, q3, ?_⟩
    cases ho : l[m.i]? with
    | none => rw [ho] at q4; cases q4
    | some o =>
      rw [ho] at q4
      simp only [Bool.and_eq_true, Option.isNone_iff_eq_none, decide_eq_true_eq] at q4
      exact ⟨o, rfl, q4⟩
  refine grow_any (P := P) (md := .any) (ops := l.toArray) (C := C) (n := n) (L := L) (W := W) (a0 := a) (M := M) (fin := finG M listed) (fun m hm => ?_) hst (fun m hm m' hm' e => nodup_inj h3 m hm m' hm' e) (fun m hm m' hm' e => by rw [nodup_inj h4 m hm m' hm' e]) (fun m hm => ?_) (fun m hm => (at_ m hm).2.1) hC K f listed a W h1 (Below.refl _ _) ⟨rfl, rfl, fun _ _ => rfl⟩ (fun m hm hl => by rw [(at_ m hm).1] at hl; cases hl)
  · obtain ⟨_, _, q3, o, q4, q5, q6⟩ := at_ m hm
    have e : l.toArray[m.i]? = some o := by simpa using q4
    obtain ⟨o', e', st⟩ := hS m hm
    obtain rfl := Option.some.inj (e.symm.trans e')
    exact ⟨o, e, q5, q6, q3, st⟩
  · have := List.all_eq_true.1 hsz m.d (List.mem_map.2 ⟨m, hm, rfl⟩)
    simpa using this
end
end

end Go.Proofs.YticojnepejboaacGreat
