/-
  Several texts in one.
-/
import Derived.Test.YtgjcppdeljoimaaLy
import Derived.StillTail
import Derived.Deep.Quiet
import Derived.Lib.QuietBelow
namespace Go.Proofs.Ytgjcppdeljoimaa
open Go.RowKit
structure But (S : Nat → Prop) (w w' : World) : Prop where
  os : w'.os = w.os
  tape : w'.tape = w.tape
  output : w'.output = w.output
  size : w.heap.size ≤ w'.heap.size
  block : ∀ b, b < w.heap.size → ¬ S b → w'.heap[b]? = w.heap[b]?
theorem But.refl (S : Nat → Prop) (w : World) : But S w w := ⟨rfl, rfl, rfl, Nat.le_refl _, fun _ _ _ => rfl⟩
theorem But.trans {S : Nat → Prop} {a b c : World} (h : But S a b) (k : But S b c) : But S a c :=
  ⟨k.os.trans h.os, k.tape.trans h.tape, k.output.trans h.output, Nat.le_trans h.size k.size, fun i hi hn => (k.block i (Nat.lt_of_lt_of_le hi h.size) hn).trans (h.block i hi hn)⟩
theorem But.of_below {S : Nat → Prop} {w w' : World} (h : Below w.heap.size w w') : But S w w' := ⟨h.os, h.tape, h.output, h.size, fun b hb _ => h.block b hb⟩
theorem But.up {S S' : Nat → Prop} {w w' : World} (h : But S w w') (e : ∀ b, S b → S' b) : But S' w w' := ⟨h.os, h.tape, h.output, h.size, fun b hb hn => h.block b hb (fun hs => hn (e b hs))⟩
theorem But.below {S : Nat → Prop} {B : Nat} {w w' : World} (h : But S w w') (hS : ∀ b, S b → B ≤ b) (hB : B ≤ w.heap.size) : Below B w w' := ⟨h.os, h.tape, h.output, h.size, fun b hb => h.block b (by omega) (fun hs => by have := hS b hs; omega)⟩
theorem But.of_low {S : Nat → Prop} {B : Nat} {w w' : World} (h : Below B w w') (hB : ∀ b, b < w.heap.size → ¬ S b → w'.heap[b]? = w.heap[b]?) : But S w w' := ⟨h.os, h.tape, h.output, h.size, hB⟩
theorem But.set {S : Nat → Prop} {a w : World} (h : But S a w) {g : Nat} (hg : S g) (i : Nat) (x : Value) : But S a (w.setCell ⟨g, i, none⟩ x) := by
  have hb := (Below.refl g w).setCell (p := ⟨g, i, none⟩) (Nat.le_refl _) x
  exact h.trans (But.of_low hb (fun b _ hn => Below.heap_setCell w _ x b (fun e => hn (by have : b = g := e; rw [this]; exact hg))))
theorem But.same {S T : Nat → Prop} {w w' : World} (h : But S w w') (hT : ∀ b, T b → b < w.heap.size ∧ ¬ S b) : Same T w w' := fun b hb => h.block b (hT b hb).1 (hT b hb).2
def dgO : Nat → Int → ByteArray → ByteArray
  | 0, _, t => t
  | n + 1, k, t => if 0 < k then dgO n (k / 10) (⟨#[UInt8.ofNat (48 + k % 10).toNat]⟩ ++ t) else t
def mkO (k : Int) : ByteArray := ⟨#[109]⟩ ++ dgO 20 k ⟨#[]⟩
class Own (α : Type) extends Lay α where
  On : (Nat → Prop) → World → α → (Nat → Value) → Prop
  cnt : α → Nat
  mkD : Int → α → α
  on_at : ∀ {S : Nat → Prop} {w : World} {a : α} {c : Nat → Value}, On S w a c → Lay.At S w a c
  on_same : ∀ {S : Nat → Prop} {w w' : World} {a : α} {c : Nat → Value}, On S w a c → Same S w w' → On S w' a c
  on_up : ∀ {S S' : Nat → Prop} {w : World} {a : α} {c : Nat → Value}, On S w a c → (∀ b, S b → S' b) → On S' w a c
  on_ext : ∀ {S : Nat → Prop} {w : World} {a : α} {c c' : Nat → Value}, On S w a c → (∀ j, j < width → c' j = c j) → On S w a c'
instance : Own ByteArray where
  On := fun S w a c => Lay.At S w a c
  cnt := fun _ => 1
  mkD := fun k _ => mkO k
  on_at := fun h => h
  on_same := fun h e => Lay.same h e
  on_up := fun h e => Lay.up h e
  on_ext := fun h e => Lay.ext h e
instance : Own Int where
  On := fun S w a c => Lay.At S w a c
  cnt := fun _ => 1
  mkD := fun k _ => k
  on_at := fun h => h
  on_same := fun h e => Lay.same h e
  on_up := fun h e => Lay.up h e
  on_ext := fun h e => Lay.ext h e
instance {α β : Type} [Own α] [Own β] : Own (α × β) where
  On := fun S w a c => ∃ S1 S2 : Nat → Prop, (∀ b, S1 b → S b ∧ ¬ S2 b) ∧ (∀ b, S2 b → S b) ∧ Own.On S1 w a.1 c ∧ Own.On S2 w a.2 (fun j => c (Lay.width α + j))
  cnt := fun a => Own.cnt a.1 + Own.cnt a.2
  mkD := fun k a => (Own.mkD k a.1, Own.mkD (k + Own.cnt a.1) a.2)
  on_at := fun ⟨_, _, h1, h2, ha, hb⟩ => ⟨Lay.up (Own.on_at ha) (fun b hb => (h1 b hb).1), Lay.up (Own.on_at hb) h2⟩
  on_same := fun ⟨S1, S2, h1, h2, ha, hb⟩ e => ⟨S1, S2, h1, h2, Own.on_same ha (fun b hb => e b (h1 b hb).1), Own.on_same hb (fun b hb => e b (h2 b hb))⟩
  on_up := fun ⟨S1, S2, h1, h2, ha, hb⟩ e => ⟨S1, S2, fun b hb => ⟨e b (h1 b hb).1, (h1 b hb).2⟩, fun b hb => e b (h2 b hb), ha, hb⟩
  on_ext := fun ⟨S1, S2, h1, h2, ha, hb⟩ e => ⟨S1, S2, h1, h2, Own.on_ext ha (fun j hj => e j (by show j < Lay.width _ + Lay.width _; omega)), Own.on_ext hb (fun j hj => e _ (by show _ < Lay.width _ + Lay.width _; omega))⟩
structure Els {α : Type} [Own α] (S : Nat → Prop) (w : World) (g off : Nat) (Ss : Nat → Nat → Prop) (cur : Array Value) (t : TypeId) (n : Nat) (f : Nat → α) : Prop where
  row : w.heap[g]? = some (.cells cur t (0, 0))
  own : S g
  sub : ∀ i b, Ss i b → S b ∧ b ≠ g
  dis : ∀ i j b, Ss i b → Ss j b → i = j
  el : ∀ i, i < n → ∃ c : Nat → Value, (∀ j, j < Lay.width α → cur[off + i * Lay.width α + j]? = some (c j)) ∧ Own.On (Ss i) w (f i) c
def OnL {α : Type} [Own α] (S : Nat → Prop) (w : World) (l : List α) (v : Value) : Prop :=
  ∃ oa cap, v = .slice oa l.length cap ∧ (l.length ≤ maxLen ∧ l.length ≤ cap ∧ Hid (oa = none → cap = 0)) ∧ (l = [] ∨ ∃ g off Ss cur t, oa = some ⟨g, off, none⟩ ∧ ∃ f : Nat → α, (∀ i (h : i < l.length), f i = l[i]) ∧ Els S w g off Ss cur t l.length f)
section
variable {α : Type} [Own α]
theorem Els.same {S : Nat → Prop} {w w' : World} {g off : Nat} {Ss : Nat → Nat → Prop} {cur : Array Value} {t : TypeId} {n : Nat} {f : Nat → α} (h : Els S w g off Ss cur t n f) (e : Same S w w') : Els S w' g off Ss cur t n f :=
  ⟨(e g h.own).trans h.row, h.own, h.sub, h.dis, fun i hi => by
    obtain ⟨c, h1, h2⟩ := h.el i hi
    exact ⟨c, h1, Own.on_same h2 (fun b hb => e b (h.sub i b hb).1)⟩⟩
theorem Els.up {S S' : Nat → Prop} {w : World} {g off : Nat} {Ss : Nat → Nat → Prop} {cur : Array Value} {t : TypeId} {n : Nat} {f : Nat → α} (h : Els S w g off Ss cur t n f) (e : ∀ b, S b → S' b) : Els S' w g off Ss cur t n f :=
  ⟨h.row, e g h.own, fun i b hb => ⟨e b (h.sub i b hb).1, (h.sub i b hb).2⟩, h.dis, h.el⟩
theorem OnL.same {S : Nat → Prop} {w w' : World} {l : List α} {v : Value} (h : OnL S w l v) (e : Same S w w') : OnL S w' l v := by
  obtain ⟨oa, cap, hv, hn, h⟩ := h
  refine ⟨oa, cap, hv, hn, h.imp id ?_⟩
  rintro ⟨g, off, Ss, cur, t, ho, f, hf, h⟩
  exact ⟨g, off, Ss, cur, t, ho, f, hf, h.same e⟩
theorem OnL.up {S S' : Nat → Prop} {w : World} {l : List α} {v : Value} (h : OnL S w l v) (e : ∀ b, S b → S' b) : OnL S' w l v := by
  obtain ⟨oa, cap, hv, hn, h⟩ := h
  refine ⟨oa, cap, hv, hn, h.imp id ?_⟩
  rintro ⟨g, off, Ss, cur, t, ho, f, hf, h⟩
  exact ⟨g, off, Ss, cur, t, ho, f, hf, h.up e⟩
theorem OnL.at_ {S : Nat → Prop} {w : World} {l : List α} {v : Value} (h : OnL S w l v) : AtL S w l v := by
  obtain ⟨oa, cap, hv, hn, h⟩ := h
  refine ⟨oa, cap, hv, hn, fun i hi => ?_⟩
  rcases h with h | ⟨g, off, Ss, cur, t, ho, f, hf, h⟩
  · subst h; exact absurd hi (Nat.not_lt_zero _)
  · obtain ⟨c, h1, h2⟩ := h.el i hi
    refine ⟨g, off, ho, h.own, c, fun j hj => (cell_row h.row _ _ (h1 j hj)).1, ?_⟩
    rw [← hf i hi]
    exact Lay.up (Own.on_at h2) (fun b hb => (h.sub i b hb).1)
def cntTo (l : List α) (k : Nat) : Nat := ((l.take k).map Own.cnt).sum
def cntL (l : List α) : Nat := cntTo l l.length
def mkL : Int → List α → List α
  | _, [] => []
  | k, x :: l => Own.mkD k x :: mkL (k + Own.cnt x) l
end
instance {α : Type} [Own α] : Own (List α) where
  On := fun S w l c => OnL S w l (c 0)
  cnt := cntL
  mkD := mkL
  on_at := fun h => OnL.at_ h
  on_same := fun h e => OnL.same h e
  on_up := fun h e => OnL.up h e
  on_ext := fun h e => by rw [e 0 (Nat.zero_lt_one)]; exact h
end Go.Proofs.Ytgjcppdeljoimaa

namespace Go.Proofs.Ytgjcppdeljoimaa
open Go.Sort
section
variable {P : Program} {md : Region.Mode} {C : World → Prop}
def downB (l : List Oper) (n : Nat) : Bool := (List.range n).all fun j => match l[j]? with
  | some o => o.guard.isNone && o.after.all fun e => decide (e.on < j)
  | none => false
theorem down_at {l : List Oper} {n j : Nat} (h : downB l n = true) (hj : j < n) : ∃ o, l[j]? = some o ∧ o.guard = none ∧ ∀ e ∈ o.after, e.on < j := by
  have h1 := List.all_eq_true.1 h j (List.mem_range.2 hj)
  cases ho : l[j]? with
  | none => rw [ho] at h1; cases h1
  | some o =>
    rw [ho] at h1
    simp only [Bool.and_eq_true, Option.isNone_iff_eq_none, Array.all_eq_true'] at h1
    exact ⟨o, rfl, h1.1, fun e he => by simpa using h1.2 e he⟩
theorem wanted_none {o : Oper} (h : o.guard = none) (ys : Nat → Option Bool) : Region.wanted o ys = true := by
  simp [Region.wanted, h]
def padB (lh : Array Bool) (t : Nat) : Array Bool := lh ++ Array.replicate t false
theorem pad_lt {lh : Array Bool} {t i : Nat} (d : Bool) (h : i < lh.size) : (padB lh t).getD i d = lh.getD i d := by
  simp [padB, Array.getElem?_append_left h]
theorem pad_set {lh : Array Bool} {t i : Nat} (h : i < lh.size) : (padB lh t).setIfInBounds i true = padB (lh.setIfInBounds i true) t := by
  apply Array.ext'
  simp only [padB, Array.toList_setIfInBounds, Array.toList_append]
  exact List.set_append_left _ _ (by rw [Array.length_toList]; exact h)
theorem ready_head {l : List Oper} {n i : Nat} {lh : Array Bool} (hd : downB l n = true) (hs : lh.size = n) (hi : i < n) :
    i ∈ Region.ready md l.toArray (padB lh (l.length - n)) ↔ i ∈ Region.ready md (l.take n).toArray lh := by
  obtain ⟨o, ho, _, hdn⟩ := down_at hd hi
  rw [mem_ready, mem_ready, pad_lt true (by omega)]
  have e1 : l.toArray[i]? = some o := by simpa using ho
  have e2 : (l.take n).toArray[i]? = some o := by simp [hi, ho]
  refine and_congr Iff.rfl ⟨fun ⟨o', h1, h2⟩ => ?_, fun ⟨o', h1, h2⟩ => ?_⟩
  · obtain rfl := Option.some.inj (e1.symm.trans h1)
    exact ⟨o, e2, fun e he hb => by rw [← pad_lt (t := l.length - n) false (by have := hdn e he; omega)]; exact h2 e he hb⟩
  · obtain rfl := Option.some.inj (e2.symm.trans h1)
    exact ⟨o, e1, fun e he hb => by rw [pad_lt false (by have := hdn e he; omega)]; exact h2 e he hb⟩
theorem ready_some {l : List Oper} {n : Nat} {lh : Array Bool} (hd : downB l n = true) (hs : lh.size = n) : ∀ (i : Nat), i < n → lh.getD i true = false → ∃ j, j < n ∧ j ∈ Region.ready md (l.take n).toArray lh := by
  intro i
  induction i using Nat.strongRecOn with
  | _ i ih =>
    intro hi hun
    obtain ⟨o, ho, _, hdn⟩ := down_at hd hi
    by_cases hr : i ∈ Region.ready md (l.take n).toArray lh
    · exact ⟨i, hi, hr⟩
    · have : ∃ e ∈ o.after, Region.binds md e = true ∧ lh.getD e.on false = false := by
        refine Classical.byContradiction fun hno => hr (mem_ready.2 ⟨hun, o, by simp [hi, ho], fun e he hb => ?_⟩)
        cases hx : lh.getD e.on false with
        | true => rfl
        | false => exact absurd ⟨e, he, hb, hx⟩ hno
      obtain ⟨e, he, _, hx⟩ := this
      have hlt := hdn e he
      exact ih e.on hlt (by omega) (getD_in (by omega) hx)
def leftN (lh : Array Bool) : Nat := (lh.toList.filter fun b => !b).length
theorem left_some {lh : Array Bool} (h : 0 < leftN lh) : ∃ i, i < lh.size ∧ lh.getD i true = false := by
  obtain ⟨b, hb⟩ := List.exists_mem_of_length_pos h
  obtain ⟨h1, h2⟩ := List.mem_filter.1 hb
  obtain ⟨i, hi, he⟩ := List.getElem_of_mem h1
  refine ⟨i, by simpa using hi, ?_⟩
  have : lh[i]? = some b := by rw [← Array.getElem?_toList, List.getElem?_eq_getElem hi, he]
  simp [Array.getD_eq_getD_getElem?, this]
  simpa using h2
theorem left_none {lh : Array Bool} (h : leftN lh = 0) : lh = Array.replicate lh.size true := by
  apply Array.ext'
  rw [Array.toList_replicate]
  refine List.eq_replicate_iff.2 ⟨by simp, fun b hb => ?_⟩
  cases b with
  | true => rfl
  | false =>
    have : false ∈ lh.toList.filter fun b => !b := List.mem_filter.2 ⟨hb, rfl⟩
    rw [List.eq_nil_of_length_eq_zero h] at this
    cases this
theorem left_list : ∀ (l : List Bool) (i : Nat), l[i]? = some false → ((l.set i true).filter fun b => !b).length + 1 = (l.filter fun b => !b).length
  | [], i, h => by simp at h
  | b :: l, 0, h => by
    simp at h; subst h; simp
  | b :: l, i + 1, h => by
    have := left_list l i (by simpa using h)
    cases b <;> simp_all
theorem left_set {lh : Array Bool} {i : Nat} (h : lh.getD i true = false) (hi : i < lh.size) : leftN (lh.setIfInBounds i true) + 1 = leftN lh := by
  unfold leftN
  rw [Array.toList_setIfInBounds]
  refine left_list lh.toList i ?_
  have : lh[i]? = some false := by
    rw [Array.getElem?_eq_getElem hi]
    have h2 := h
    rw [Array.getD_eq_getD_getElem?, Array.getElem?_eq_getElem hi] at h2
    simpa using h2
  simpa using this
theorem head_sim {l : List Oper} {n : Nat} {Q : Exit → Act → World → Prop} {Qh : Act → Prop} (hd : downB l n = true) (hn : n < l.length) (hs : Region.sinkB md l.toArray n = true) (hc : Region.chainB md l.toArray n = true)
    (hQ : ∀ a w, C w → Qh a → wpAny P md l.toArray Q (l.length - n) (padB (Array.replicate n true) (l.length - n)) a w) :
    ∀ (f : Nat) (lh : Array Bool) (a : Act) (w : World), lh.size = n → leftN lh = f → HeadInv md l.toArray n (padB lh (l.length - n)) → C w →
      wpAnyQ P md (l.take n).toArray C Qh f lh a → wpAny P md l.toArray Q (f + (l.length - n)) (padB lh (l.length - n)) a w := by
  intro f
  induction f with
  | zero =>
    intro lh a w hsz hl _ hw h
    rw [Nat.zero_add, left_none hl, hsz]
    exact hQ a w hw h.2
  | succ f ih =>
    intro lh a w hsz hl inv hw h
    obtain ⟨i0, hi0, hun0⟩ := left_some (lh := lh) (by omega)
    rw [show f + 1 + (l.length - n) = (f + (l.length - n)) + 1 by omega]
    refine ⟨fun h0 => ?_, fun i hi => ?_⟩
    · obtain ⟨j, hj, hr⟩ := ready_some (md := md) hd hsz i0 (by omega) hun0
      have := (ready_head hd hsz hj).2 hr
      rw [h0] at this
      cases this
    · have hin : i < n := by
        refine Nat.lt_of_not_le fun hle => ?_
        exact tail_waits hs hc (by simpa using hn) inv _ i0 rfl (by omega) (by rw [pad_lt true (by omega)]; exact hun0) i hle hi
      have hrh := (ready_head hd hsz hin).1 hi
      have hq := h.2 i hrh
      obtain ⟨o, ho, hg, _⟩ := down_at hd hin
      have e1 : l.toArray[i]? = some o := by simpa using ho
      have e2 : (l.take n).toArray[i]? = some o := by simp [hin, ho]
      have hun : lh.getD i true = false := (mem_ready.1 hrh).1
      unfold qOp at hq
      simp only [e2, wanted_none hg, if_true] at hq
      unfold wpOp
      simp only [e1, wanted_none hg, if_true]
      refine .inl (Oper.wp_of_quiet hw (fun a' w' hw' hk => ?_) hq)
      rw [pad_set (by omega)]
      refine ih (lh.setIfInBounds i true) a' w' (by simpa using hsz) (by have := left_set hun (by omega); omega) ?_ hw' hk
      rw [← pad_set (by omega)]
      exact inv.set hi hin
def headTailB (l : List Oper) (n : Nat) : Bool :=
  downB l n && decide (n < l.length) && Region.sinkB .any l.toArray n && Region.chainB .any l.toArray n && Region.lexB .any (l.take n).toArray && Region.seqB .any l.toArray (l.length - n) n (padB (Array.replicate n true) (l.length - n))
theorem wp_region_head_tail {id : Nat} {Q : Exit → Act → World → Prop} {a : Act} {w : World} {l : List Oper} (n : Nat) (hm : P.follows .mixedOrders = true) (hB : headTailB l n = true)
    (h : wpQuiet P (l.take n).toArray (fun w' => ∃ p : Regrown, w' = grow (redrawn w p.d) p.os) (fun a' => ∀ w', (∃ p : Regrown, w' = grow (redrawn w p.d) p.os) → wpList P l.toArray Q (l.drop n) a' w') (l.take n) a) :
    (Code.region id l.toArray true).wp P Q a w := by
  simp only [headTailB, Bool.and_eq_true, decide_eq_true_eq] at hB
  obtain ⟨⟨⟨⟨⟨hd, hn⟩, hs⟩, hc⟩, hlex⟩, hseq⟩ := hB
  simp only [Region.lexB, Bool.and_eq_true] at hlex
  have htl : (l.take n).length = n := by simp; omega
  have hdl : (l.drop n).length = l.length - n := by simp
  refine wp_region_any hm ?_
  have H := wpAnyQ_lex (P := P) (C := fun w' => ∃ p : Regrown, w' = grow (redrawn w p.d) p.os) (md := .any) hlex.1 (l.take n) 0 (Array.replicate (l.take n).toArray.size false) a (by simp) (by simpa using hlex.2) h
  have inv0 : HeadInv .any l.toArray n (padB (Array.replicate n false) (l.length - n)) := by
    have e : padB (Array.replicate n false) (l.length - n) = Array.replicate l.toArray.size false := by
      apply Array.ext'
      simp only [padB, Array.toList_append, Array.toList_replicate, List.replicate_append_replicate, List.size_toArray]
      congr 1; omega
    rw [e]
    exact ⟨by simp, fun j oj _ hl => (by rw [getD_replicate_false] at hl; cases hl), fun t _ ht => getD_in (by simpa using ht) (getD_replicate_false _ _)⟩
  have hsz : (l.take n).toArray.size = n := by simp; omega
  rw [hsz, htl] at H
  have hl0 : leftN (Array.replicate n false) = n := by simp [leftN]
  have S := head_sim (P := P) (md := .any) (C := fun w' => ∃ p : Regrown, w' = grow (redrawn w p.d) p.os) (Q := Q) (Qh := fun a' => ∀ w', (∃ p : Regrown, w' = grow (redrawn w p.d) p.os) → wpList P l.toArray Q (l.drop n) a' w') hd hn hs hc
    (fun a' w' hw' hq => by
      have := wpAny_of_seq (P := P) (md := .any) (ops := l.toArray) (Q' := Q) (l.drop n) n (padB (Array.replicate n true) (l.length - n)) a' w' (fun j => by simp [List.getElem?_drop]) (by rw [hdl]; exact hseq) (hq w' hw')
      rwa [hdl] at this)
    n (Array.replicate n false) a { w with drawn := w.drawn + 1 } (by simp) hl0 inv0 ⟨⟨w.drawn + 1, #[]⟩, by rw [grow_empty]; rfl⟩ H
  have e0 : padB (Array.replicate n false) (l.length - n) = Array.replicate l.toArray.size false := by
    apply Array.ext'
    simp only [padB, Array.toList_append, Array.toList_replicate, List.replicate_append_replicate, List.size_toArray]
    congr 1; omega
  rw [e0, show n + (l.length - n) = l.toArray.size by simp; omega] at S
  exact S
end
end Go.Proofs.Ytgjcppdeljoimaa

namespace Go.Proofs.Ytgjcppdeljoimaa
open Go.Sort
section
variable {P : Program} {md : Region.Mode} {ops : Array Oper} {C : World → Prop} {n : Nat} {L : Array Bool → Act → World → Prop}
def valB (o : Oper) : Bool := match o.op with
  | .move _ | .assign _ | .load _ _ | .fieldAddr _ _ _ | .indexAddr _ _ _ | .slice _ _ _ _ _ | .index _ _ _ | .binOp _ _ _ _ _ | .build _ _ | .extract _ _ => true
  | .call { callee := .builtin .len, .. } => true
  | _ => false
theorem then_value {r : Result Value} {f : FuncId} {args : Array Value} {w : World} : r.andThen (fun a w' => .ok (Next.value a) w') ≠ .ok (.enter f args) w := by
  cases r <;> simp [Result.andThen]
theorem v_ne (s : Sem Value) (f : FuncId) (args : Array Value) (w w' : World) : Sem.run P (do let x ← s; pure (Next.value x)) w ≠ .ok (.enter f args) w' := by
  simp only [Sem.run_bind, Sem.run_pure]; exact then_value
theorem val_only {o : Oper} (h : valB o = true) (ρ : Operand → Value) (w : World) (f : FuncId) (args : Array Value) (w' : World) : (execOp ρ o).run P w ≠ .ok (.enter f args) w' := by
  unfold valB at h
  unfold execOp
  split at h <;> rename_i heq
  all_goals (try (cases h; done))
  all_goals rw [heq]
  all_goals first
    | exact v_ne _ _ _ _ _
    | (intro e; cases e)
theorem val_of_quiet {o : Oper} (h : valB o = true) {a : Act} {v : Value} (hq : ∀ w, C w → o.quietAt P a C w v) (hs : ∀ w, C w → ∀ w', (execOp a.eval o).run P w ≠ .ok .skip w') : ∀ w, C w → (execOp a.eval o).run P w = .ok (.value v) w := by
  intro w hw
  have h1 := hq w hw
  unfold Oper.quietAt at h1
  have h2 := val_only (P := P) h a.eval w
  have h3 := hs w hw
  generalize (execOp a.eval o).run P w = r at *
  cases r with
  | halt x w' => simp only [Oper.quietUpon] at h1
  | ok m w' =>
    cases m with
    | value u => simp only [Oper.quietUpon] at h1; rw [h1.1, h1.2]
    | skip => exact absurd rfl (h3 w')
    | enter f args => exact absurd rfl (h2 f args w')
    | _ => simp only [Oper.quietUpon] at h1
theorem then_skip {r : Result Value} {w : World} : r.andThen (fun a w' => .ok (Next.value a) w') ≠ .ok .skip w := by
  cases r <;> simp [Result.andThen]
theorem v_ns (s : Sem Value) (w w' : World) : Sem.run P (do let x ← s; pure (Next.value x)) w ≠ .ok .skip w' := by
  simp only [Sem.run_bind, Sem.run_pure]; exact then_skip
theorem val_skip {o : Oper} (h : valB o = true) (ρ : Operand → Value) (w w' : World) : (execOp ρ o).run P w ≠ .ok .skip w' := by
  unfold valB at h
  unfold execOp
  split at h <;> rename_i heq
  all_goals (try (cases h; done))
  all_goals rw [heq]
  all_goals first
    | exact v_ns _ _ _
    | (intro e; cases e)
def stepC (P : Program) (ops : Array Oper) (i : Nat) (K : Act → World → Prop) (a : Act) (w : World) : Prop :=
  ∃ o, ops[i]? = some o ∧ o.guard = none ∧ ∃ u w', (execOp a.eval o).run P w = .ok (.value u) w' ∧ K (a.put o.dst u) w'
def stepE (P : Program) (ops : Array Oper) (i : Nat) (K : Act → World → Prop) (a : Act) (w : World) : Prop :=
  ∃ o, ops[i]? = some o ∧ o.guard = none ∧ ∃ f args, (execOp a.eval o).run P w = .ok (.enter f args) w ∧ Calls P f args w (fun e w'' => ∃ u, e = .returned u ∧ K (a.put o.dst u) w'')
def anyC (P : Program) (md : Region.Mode) (ops : Array Oper) (C : World → Prop) (n : Nat) (L : Array Bool → Act → World → Prop) : Nat → Array Bool → Act → World → Prop
  | 0, listed, a, w => L listed a w
  | f + 1, listed, a, w => Region.ready md ops listed ≠ [] ∧ ∀ i ∈ Region.ready md ops listed, i < n ∧ (stepC P ops i (fun a' w' => C w' ∧ anyC P md ops C n L f (listed.setIfInBounds i true) a' w') a w ∨ stepE P ops i (fun a' w' => C w' ∧ anyC P md ops C n L f (listed.setIfInBounds i true) a' w') a w)
theorem any_of_C {Q : Exit → Act → World → Prop} {g : Nat} (hL : ∀ listed a w, L listed a w → wpAny P md ops Q g listed a w) :
    ∀ (f : Nat) (listed : Array Bool) (a : Act) (w : World), anyC P md ops C n L f listed a w → wpAny P md ops Q (f + g) listed a w
  | 0, listed, a, w, h => by rw [Nat.zero_add]; exact hL _ _ _ h
  | f + 1, listed, a, w, h => by
    rw [show f + 1 + g = (f + g) + 1 by omega]
    refine ⟨fun h0 => absurd h0 h.1, fun i hi => ?_⟩
    rcases (h.2 i hi).2 with ⟨o, ho, hg, u, w', hr, _, hk⟩ | ⟨o, ho, hg, fn, args, hr, hk⟩
    · unfold wpOp
      simp only [ho, wanted_none hg, if_true]
      refine .inl ?_
      unfold Oper.wp
      rw [hr]
      exact any_of_C hL f _ _ _ hk
    · unfold wpOp
      simp only [ho, wanted_none hg, if_true]
      refine .inl ?_
      unfold Oper.wp
      rw [hr]
      exact hk.mono fun e w'' ⟨u, he, _, hk'⟩ => by subst he; exact any_of_C hL f _ _ _ hk'
theorem anyC_first {i : Nat} {oi : Oper} {v : Value} (hi : ops[i]? = some oi) (hgi : oi.guard = none) (hsel : Region.noSelect ops = true) (hs : Region.sinkB md ops n = true) (hc : Region.chainB md ops n = true) (hn : n < ops.size) (hin : i < n)
    (hdone : ∀ listed a w, L listed a w → ∀ j ∈ Region.ready md ops listed, n ≤ j) :
    ∀ (f : Nat) (listed : Array Bool) (a : Act) (w : World), C w → HeadInv md ops n listed →
      (∀ j oj, ops[j]? = some oj → j ≠ i → listed.getD j true = false → (∀ e ∈ oj.after, Region.binds md e = true → e.on ≠ i) → oi.apart ops oj = true) →
      i ∈ Region.ready md ops listed → (∀ w, C w → (execOp a.eval oi).run P w = .ok (.value v) w) →
      anyC P md ops C n L f (listed.setIfInBounds i true) (a.put oi.dst v) w → anyC P md ops C n L (f + 1) listed a w := by
  intro f
  induction f with
  | zero =>
    intro listed a w hw inv _ hr hy H
    refine ⟨(fun h => by rw [h] at hr; cases hr), fun j hj => ?_⟩
    by_cases hji : j = i
    · subst hji; exact ⟨hin, .inl ⟨oi, hi, hgi, v, w, hy w hw, hw, H⟩⟩
    · have h1 := hdone _ _ _ H j (ready_mono hj hji)
      exact absurd hj (tail_waits hs hc hn inv _ i rfl hin (mem_ready.1 hr).1 j h1)
  | succ f ih =>
    intro listed a w hw inv hfree hr hy H
    refine ⟨(fun h => by rw [h] at hr; cases hr), fun j hj => ?_⟩
    by_cases hji : j = i
    · subst hji; exact ⟨hin, .inl ⟨oi, hi, hgi, v, w, hy w hw, hw, H⟩⟩
    · obtain ⟨hjn, hstep⟩ := H.2 j (ready_mono hj hji)
      obtain ⟨hjun, oj, hoj, hall⟩ := mem_ready.1 hj
      have hiun := (mem_ready.1 hr).1
      have hnot : ∀ e ∈ oj.after, Region.binds md e = true → e.on ≠ i := fun e he hb heq => by
        have h1 := hall e he hb
        rw [heq, getD_both hiun] at h1
        cases h1
      obtain ⟨h1, h2, h3⟩ := Oper.apart_spec (hfree j oj hoj hji hjun hnot)
      have hex : execOp (a.put oi.dst v).eval oj = execOp a.eval oj := execOp_put (ops := ops) oj (fun cs b => Region.noSelect_spec hsel j oj cs b hoj) a oi.dst v h1
      have next : ∀ u w', C w' → anyC P md ops C n L f ((listed.setIfInBounds i true).setIfInBounds j true) ((a.put oi.dst v).put oj.dst u) w' → anyC P md ops C n L (f + 1) (listed.setIfInBounds j true) (a.put oj.dst u) w' := by
        intro u w' hC' hrest
        refine ih (listed.setIfInBounds j true) (a.put oj.dst u) w' hC' (inv.set hj hjn) ?_ (ready_mono hr (Ne.symm hji)) ?_ ?_
        · intro k ok hk hki hun hno
          refine hfree k ok hk hki ?_ hno
          by_cases hjk : j = k
          · subst hjk; exact hjun
          · rw [getD_set_ne true hjk] at hun; exact hun
        · intro w1 hw1
          rw [execOp_put (ops := ops) oi (fun cs b => Region.noSelect_spec hsel i oi cs b hi) a oj.dst u h3]
          exact hy w1 hw1
        · rw [Array.setIfInBounds_comm _ _ hji, ← Act.put_comm a v u h2]
          exact hrest
      refine ⟨hjn, ?_⟩
      rcases hstep with ⟨oj', hoj', hgj, u, w', hrun, hC', hrest⟩ | ⟨oj', hoj', hgj, fn, args, hrun, hrest⟩
      · obtain rfl := Option.some.inj (hoj.symm.trans hoj')
        exact .inl ⟨oj, hoj, hgj, u, w', by rw [← hex]; exact hrun, hC', next u w' hC' hrest⟩
      · obtain rfl := Option.some.inj (hoj.symm.trans hoj')
        exact .inr ⟨oj, hoj, hgj, fn, args, by rw [← hex]; exact hrun, hrest.mono fun e w'' ⟨u, he, hC', hk⟩ => ⟨u, he, hC', next u w'' hC' hk⟩⟩
def mixB (md : Region.Mode) (ops : Array Oper) (n : Nat) : List Nat → Array Bool → Bool
  | [], _ => true
  | k :: ks, listed => (Region.ready md ops listed).contains k && Region.free md ops listed k && decide (k < n) && (match ops[k]? with | some o => valB o && o.guard.isNone | none => false) && mixB md ops n ks (listed.setIfInBounds k true)
def listAll (ks : List Nat) (listed : Array Bool) : Array Bool := ks.foldl (fun l k => l.setIfInBounds k true) listed
theorem anyC_lex (hsel : Region.noSelect ops = true) (hs : Region.sinkB md ops n = true) (hc : Region.chainB md ops n = true) (hn : n < ops.size) (hdone : ∀ listed a w, L listed a w → ∀ j ∈ Region.ready md ops listed, n ≤ j) (g : Nat) (w : World) (hw : C w) :
    ∀ (ks : List Nat) (os : List Oper) (listed : Array Bool) (a : Act), os.map some = ks.map (ops[·]?) → HeadInv md ops n listed → mixB md ops n ks listed = true →
      wpQuiet P ops C (fun a' => anyC P md ops C n L g (listAll ks listed) a' w) os a → anyC P md ops C n L (ks.length + g) listed a w
  | [], os, listed, a, he, _, _, h => by
    have : os = [] := by simpa using he
    subst this
    rw [List.length_nil, Nat.zero_add]; exact h
  | k :: ks, os, listed, a, he, inv, hB, h => by
    match os, he with
    | o :: os, he =>
      simp only [List.map_cons, List.cons.injEq] at he
      obtain ⟨ho, he⟩ := he
      simp only [mixB, ← ho, Bool.and_eq_true, decide_eq_true_eq, Option.isNone_iff_eq_none] at hB
      obtain ⟨⟨⟨⟨hr, hf⟩, hk⟩, hv, hg⟩, hB'⟩ := hB
      have hr' : k ∈ Region.ready md ops listed := by simpa using hr
      simp only [wpQuiet, wanted_none hg, if_true] at h
      obtain ⟨v, hq, hnext⟩ := h
      rw [List.length_cons, show ks.length + 1 + g = (ks.length + g) + 1 by omega]
      exact anyC_first ho.symm hg hsel hs hc hn hk hdone _ listed a w hw inv (Region.free_spec ho.symm hf) hr' (val_of_quiet hv hq (fun w _ w' => val_skip hv a.eval w w'))
        (anyC_lex hsel hs hc hn hdone g w hw ks os _ _ he (inv.set hr' hk) hB' hnext)
def mixTailB (l : List Oper) (n : Nat) (ks : List Nat) : Bool :=
  Region.noSelect l.toArray && decide (n < l.length) && decide (ks.length ≤ n) && Region.sinkB .any l.toArray n && Region.chainB .any l.toArray n && mixB .any l.toArray n ks (Array.replicate l.length false)
def tailC (P : Program) (Q : Exit → Act → World → Prop) (l : List Oper) (n : Nat) (listed : Array Bool) (a : Act) (w : World) : Prop :=
  Region.seqB .any l.toArray (l.length - n) n listed = true ∧ wpList P l.toArray Q (l.drop n) a w
theorem wp_region_mixed {id : Nat} {Q : Exit → Act → World → Prop} {a : Act} {w : World} {l : List Oper} (n : Nat) (ks : List Nat) (os : List Oper) (hm : P.follows .mixedOrders = true) (hB : mixTailB l n ks = true) (hos : os.map some = ks.map (l.toArray[·]?))
    (h : wpQuiet P l.toArray (fun w' => ∃ p : Regrown, w' = grow (redrawn w p.d) p.os) (fun a' => anyC P .any l.toArray (fun w' => ∃ p : Regrown, w' = grow (redrawn w p.d) p.os) n (tailC P Q l n) (n - ks.length) (listAll ks (Array.replicate l.length false)) a' w.drew) os a) :
    (Code.region id l.toArray true).wp P Q a w := by
  simp only [mixTailB, Bool.and_eq_true, decide_eq_true_eq] at hB
  obtain ⟨⟨⟨⟨⟨hsel, hn⟩, hkn⟩, hs⟩, hc⟩, hmix⟩ := hB
  have hn' : n < l.toArray.size := by simpa using hn
  have hdl : (l.drop n).length = l.length - n := by simp
  have inv0 : HeadInv .any l.toArray n (Array.replicate l.length false) :=
    ⟨by simp, fun j oj _ hl => (by rw [getD_replicate_false] at hl; cases hl), fun t _ ht => getD_in (by simpa using ht) (getD_replicate_false _ _)⟩
  have H := anyC_lex (P := P) (md := .any) (L := tailC P Q l n) hsel hs hc hn' (fun listed a w hL => seqB_ready hL.1) (n - ks.length) w.drew ⟨⟨w.drawn + 1, #[]⟩, by rw [grow_empty]; rfl⟩ ks os _ a hos inv0 hmix h
  have G := any_of_C (Q := Q) (g := l.length - n) (fun listed a' w' hL => by
    have := wpAny_of_seq (P := P) (md := .any) (ops := l.toArray) (Q' := Q) (l.drop n) n listed a' w' (fun j => by simp [List.getElem?_drop]) (by rw [hdl]; exact hL.1) hL.2
    rwa [hdl] at this) _ _ _ _ H
  rw [show ks.length + (n - ks.length) + (l.length - n) = l.toArray.size by simp; omega] at G
  refine wp_region_any hm ?_
  simpa using G
theorem mix_ops {l : List Oper} {n : Nat} : ∀ (ks : List Nat) (listed : Array Bool), mixB md l.toArray n ks listed = true → (ks.filterMap fun k => l[k]?).map some = ks.map (l.toArray[·]?)
  | [], _, _ => rfl
  | k :: ks, listed, h => by
    simp only [mixB, Bool.and_eq_true] at h
    obtain ⟨⟨_, hv⟩, h'⟩ := h
    have ih := mix_ops ks _ h'
    cases ho : l[k]? with
    | none => simp [ho] at hv
    | some o =>
      rw [List.filterMap_cons]
      simp only [ho, List.map_cons, ih]
      simp [ho]
theorem wp_region_mix {id : Nat} {Q : Exit → Act → World → Prop} {a : Act} {w : World} {l : List Oper} (n : Nat) (ks : List Nat) (hm : P.follows .mixedOrders = true) (hB : mixTailB l n ks = true)
    (h : wpQuiet P l.toArray (fun w' => ∃ p : Regrown, w' = grow (redrawn w p.d) p.os) (fun a' => anyC P .any l.toArray (fun w' => ∃ p : Regrown, w' = grow (redrawn w p.d) p.os) n (tailC P Q l n) (n - ks.length) (listAll ks (Array.replicate l.length false)) a' w.drew) (ks.filterMap fun k => l[k]?) a) :
    (Code.region id l.toArray true).wp P Q a w := by
  refine wp_region_mixed n ks _ hm hB ?_ h
  simp only [mixTailB, Bool.and_eq_true] at hB
  exact mix_ops ks _ hB.2
theorem anyC_step {f : Nat} {listed : Array Bool} {a : Act} {w : World} (rs : List Nat) (hr : Region.ready md ops listed = rs) (h0 : rs ≠ []) (h : ∀ i ∈ rs, i < n ∧ stepC P ops i (fun a' w' => C w' ∧ anyC P md ops C n L f (listed.setIfInBounds i true) a' w') a w) : anyC P md ops C n L (f + 1) listed a w := by
  subst hr; exact ⟨h0, fun i hi => ⟨(h i hi).1, .inl (h i hi).2⟩⟩
theorem anyC_call {f : Nat} {listed : Array Bool} {a : Act} {w : World} (i : Nat) (hr : Region.ready md ops listed = [i]) (hi : i < n) (h : stepE P ops i (fun a' w' => C w' ∧ anyC P md ops C n L f (listed.setIfInBounds i true) a' w') a w) : anyC P md ops C n L (f + 1) listed a w := by
  refine ⟨by rw [hr]; simp, fun j hj => ?_⟩
  rw [hr] at hj
  obtain rfl := List.mem_singleton.1 hj
  exact ⟨hi, .inr h⟩
end
end Go.Proofs.Ytgjcppdeljoimaa
