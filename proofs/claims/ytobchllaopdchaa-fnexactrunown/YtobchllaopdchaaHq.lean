import Derived.StillTail
import Derived.Deep.Quiet
import Derived.Lib.QuietBelow
namespace Go.Proofs.Ytobchllaopdchaa
open Go.Sort
section
variable {P : Program} {md : Region.Mode} {C : World → Prop}
def downB (l : List Oper) (n : Nat) : Bool := (List.range n).all fun j => match l[j]? with
  | some o => o.guard.isNone && o.after.all fun e => decide (e.on < j)
  | none => false
theorem down_at {l : List Oper} {n j : Nat} (h : downB l n = true) (hj : j < n) : ∃ o, l[j]? = some o ∧ o.guard = none ∧ ∀ e ∈ o.after, e.on < j := by
  have h1 := List.all_eq_true.1 h j (List.mem_range.2 hj)
  cases ho : l[j]? with
  | none => rw [ho] at h1; cases h1
  | some o =>
    rw [ho] at h1
    simp only [Bool.and_eq_true, Option.isNone_iff_eq_none, Array.all_eq_true'] at h1
    exact ⟨o, rfl, h1.1, fun e he => by simpa using h1.2 e he⟩
theorem wanted_none {o : Oper} (h : o.guard = none) (ys : Nat → Option Bool) : Region.wanted o ys = true := by
  simp [Region.wanted, h]
def padB (lh : Array Bool) (t : Nat) : Array Bool := lh ++ Array.replicate t false
theorem pad_lt {lh : Array Bool} {t i : Nat} (d : Bool) (h : i < lh.size) : (padB lh t).getD i d = lh.getD i d := by
  simp [padB, Array.getElem?_append_left h]
theorem pad_set {lh : Array Bool} {t i : Nat} (h : i < lh.size) : (padB lh t).setIfInBounds i true = padB (lh.setIfInBounds i true) t := by
  apply Array.ext'
  simp only [padB, Array.toList_setIfInBounds, Array.toList_append]
  exact List.set_append_left _ _ (by rw [Array.length_toList]; exact h)
theorem ready_head {l : List Oper} {n i : Nat} {lh : Array Bool} (hd : downB l n = true) (hs : lh.size = n) (hi : i < n) :
    i ∈ Region.ready md l.toArray (padB lh (l.length - n)) ↔ i ∈ Region.ready md (l.take n).toArray lh := by
  obtain ⟨o, ho, _, hdn⟩ := down_at hd hi
  rw [mem_ready, mem_ready, pad_lt true (by omega)]
  have e1 : l.toArray[i]? = some o := by simpa using ho
  have e2 : (l.take n).toArray[i]? = some o := by simp [hi, ho]
  refine and_congr Iff.rfl ⟨fun ⟨o', h1, h2⟩ => ?_, fun ⟨o', h1, h2⟩ => ?_⟩
  · obtain rfl := Option.some.inj (e1.symm.trans h1)
    exact ⟨o, e2, fun e he hb => by rw [← pad_lt (t := l.length - n) false (by have := hdn e he; omega)]; exact h2 e he hb⟩
  · obtain rfl := Option.some.inj (e2.symm.trans h1)
    exact ⟨o, e1, fun e he hb => by rw [pad_lt false (by have := hdn e he; omega)]; exact h2 e he hb⟩
theorem ready_some {l : List Oper} {n : Nat} {lh : Array Bool} (hd : downB l n = true) (hs : lh.size = n) : ∀ (i : Nat), i < n → lh.getD i true = false → ∃ j, j < n ∧ j ∈ Region.ready md (l.take n).toArray lh := by
  intro i
  induction i using Nat.strongRecOn with
  | _ i ih =>
    intro hi hun
    obtain ⟨o, ho, _, hdn⟩ := down_at hd hi
    by_cases hr : i ∈ Region.ready md (l.take n).toArray lh
    · exact ⟨i, hi, hr⟩
    · have : ∃ e ∈ o.after, Region.binds md e = true ∧ lh.getD e.on false = false := by
        refine Classical.byContradiction fun hno => hr (mem_ready.2 ⟨hun, o, by simp [hi, ho], fun e he hb => ?_⟩)
        cases hx : lh.getD e.on false with
        | true => rfl
        | false => exact absurd ⟨e, he, hb, hx⟩ hno
      obtain ⟨e, he, _, hx⟩ := this
      have hlt := hdn e he
      exact ih e.on hlt (by omega) (getD_in (by omega) hx)
def leftN (lh : Array Bool) : Nat := (lh.toList.filter fun b => !b).length
theorem left_some {lh : Array Bool} (h : 0 < leftN lh) : ∃ i, i < lh.size ∧ lh.getD i true = false := by
  obtain ⟨b, hb⟩ := List.exists_mem_of_length_pos h
  obtain ⟨h1, h2⟩ := List.mem_filter.1 hb
  obtain ⟨i, hi, he⟩ := List.getElem_of_mem h1
  refine ⟨i, by simpa using hi, ?_⟩
  have : lh[i]? = some b := by rw [← Array.getElem?_toList, List.getElem?_eq_getElem hi, he]
  simp [Array.getD_eq_getD_getElem?, this]
  simpa using h2
theorem left_none {lh : Array Bool} (h : leftN lh = 0) : lh = Array.replicate lh.size true := by
  apply Array.ext'
  rw [Array.toList_replicate]
  refine List.eq_replicate_iff.2 ⟨by simp, fun b hb => ?_⟩
  cases b with
  | true => rfl
  | false =>
    have : false ∈ lh.toList.filter fun b => !b := List.mem_filter.2 ⟨hb, rfl⟩
    rw [List.eq_nil_of_length_eq_zero h] at this
    cases this
theorem left_list : ∀ (l : List Bool) (i : Nat), l[i]? = some false → ((l.set i true).filter fun b => !b).length + 1 = (l.filter fun b => !b).length
  | [], i, h => by simp at h
  | b :: l, 0, h => by
    simp at h; subst h; simp
  | b :: l, i + 1, h => by
    have := left_list l i (by simpa using h)
    cases b <;> simp_all
theorem left_set {lh : Array Bool} {i : Nat} (h : lh.getD i true = false) (hi : i < lh.size) : leftN (lh.setIfInBounds i true) + 1 = leftN lh := by
  unfold leftN
  rw [Array.toList_setIfInBounds]
  refine left_list lh.toList i ?_
  have : lh[i]? = some false := by
    rw [Array.getElem?_eq_getElem hi]
    have h2 := h
    rw [Array.getD_eq_getD_getElem?, Array.getElem?_eq_getElem hi] at h2
    simpa using h2
  simpa using this
theorem head_sim {l : List Oper} {n : Nat} {Q : Exit → Act → World → Prop} {Qh : Act → Prop} (hd : downB l n = true) (hn : n < l.length) (hs : Region.sinkB md l.toArray n = true) (hc : Region.chainB md l.toArray n = true)
    (hQ : ∀ a w, C w → Qh a → wpAny P md l.toArray Q (l.length - n) (padB (Array.replicate n true) (l.length - n)) a w) :
    ∀ (f : Nat) (lh : Array Bool) (a : Act) (w : World), lh.size = n → leftN lh = f → HeadInv md l.toArray n (padB lh (l.length - n)) → C w →
      wpAnyQ P md (l.take n).toArray C Qh f lh a → wpAny P md l.toArray Q (f + (l.length - n)) (padB lh (l.length - n)) a w := by
  intro f
  induction f with
  | zero =>
    intro lh a w hsz hl _ hw h
    rw [Nat.zero_add, left_none hl, hsz]
    exact hQ a w hw h.2
  | succ f ih =>
    intro lh a w hsz hl inv hw h
    obtain ⟨i0, hi0, hun0⟩ := left_some (lh := lh) (by omega)
    rw [show f + 1 + (l.length - n) = (f + (l.length - n)) + 1 by omega]
    refine ⟨fun h0 => ?_, fun i hi => ?_⟩
    · obtain ⟨j, hj, hr⟩ := ready_some (md := md) hd hsz i0 (by omega) hun0
      have := (ready_head hd hsz hj).2 hr
      rw [h0] at this
      cases this
    · have hin : i < n := by
        refine Nat.lt_of_not_le fun hle => ?_
        exact tail_waits hs hc (by simpa using hn) inv _ i0 rfl (by omega) (by rw [pad_lt true (by omega)]; exact hun0) i hle hi
      have hrh := (ready_head hd hsz hin).1 hi
      have hq := h.2 i hrh
      obtain ⟨o, ho, hg, _⟩ := down_at hd hin
      have e1 : l.toArray[i]? = some o := by simpa using ho
      have e2 : (l.take n).toArray[i]? = some o := by simp [hin, ho]
      have hun : lh.getD i true = false := (mem_ready.1 hrh).1
      unfold qOp at hq
      simp only [e2, wanted_none hg, if_true] at hq
      unfold wpOp
      simp only [e1, wanted_none hg, if_true]
      refine .inl (Oper.wp_of_quiet hw (fun a' w' hw' hk => ?_) hq)
      rw [pad_set (by omega)]
      refine ih (lh.setIfInBounds i true) a' w' (by simpa using hsz) (by have := left_set hun (by omega); omega) ?_ hw' hk
      rw [← pad_set (by omega)]
      exact inv.set hi hin
def headTailB (l : List Oper) (n : Nat) : Bool :=
  downB l n && decide (n < l.length) && Region.sinkB .any l.toArray n && Region.chainB .any l.toArray n && Region.lexB .any (l.take n).toArray && Region.seqB .any l.toArray (l.length - n) n (padB (Array.replicate n true) (l.length - n))
theorem wp_region_head_tail {id : Nat} {Q : Exit → Act → World → Prop} {a : Act} {w : World} {l : List Oper} (n : Nat) (hm : P.follows .mixedOrders = true) (hB : headTailB l n = true)
    (h : wpQuiet P (l.take n).toArray (fun w' => ∃ p : Regrown, w' = grow (redrawn w p.d) p.os) (fun a' => ∀ w', (∃ p : Regrown, w' = grow (redrawn w p.d) p.os) → wpList P l.toArray Q (l.drop n) a' w') (l.take n) a) :
    (Code.region id l.toArray true).wp P Q a w := by
  simp only [headTailB, Bool.and_eq_true, decide_eq_true_eq] at hB
  obtain ⟨⟨⟨⟨⟨hd, hn⟩, hs⟩, hc⟩, hlex⟩, hseq⟩ := hB
  simp only [Region.lexB, Bool.and_eq_true] at hlex
  have htl : (l.take n).length = n := by simp; omega
  have hdl : (l.drop n).length = l.length - n := by simp
  refine wp_region_any hm ?_
  have H := wpAnyQ_lex (P := P) (C := fun w' => ∃ p : Regrown, w' = grow (redrawn w p.d) p.os) (md := .any) hlex.1 (l.take n) 0 (Array.replicate (l.take n).toArray.size false) a (by simp) (by simpa using hlex.2) h
  have inv0 : HeadInv .any l.toArray n (padB (Array.replicate n false) (l.length - n)) := by
    have e : padB (Array.replicate n false) (l.length - n) = Array.replicate l.toArray.size false := by
      apply Array.ext'
      simp only [padB, Array.toList_append, Array.toList_replicate, List.replicate_append_replicate, List.size_toArray]
      congr 1; omega
    rw [e]
    exact ⟨by simp, fun j oj _ hl => (by rw [getD_replicate_false] at hl; cases hl), fun t _ ht => getD_in (by simpa using ht) (getD_replicate_false _ _)⟩
  have hsz : (l.take n).toArray.size = n := by simp; omega
  rw [hsz, htl] at H
  have hl0 : leftN (Array.replicate n false) = n := by simp [leftN]
  have S := head_sim (P := P) (md := .any) (C := fun w' => ∃ p : Regrown, w' = grow (redrawn w p.d) p.os) (Q := Q) (Qh := fun a' => ∀ w', (∃ p : Regrown, w' = grow (redrawn w p.d) p.os) → wpList P l.toArray Q (l.drop n) a' w') hd hn hs hc
    (fun a' w' hw' hq => by
      have := wpAny_of_seq (P := P) (md := .any) (ops := l.toArray) (Q' := Q) (l.drop n) n (padB (Array.replicate n true) (l.length - n)) a' w' (fun j => by simp [List.getElem?_drop]) (by rw [hdl]; exact hseq) (hq w' hw')
      rwa [hdl] at this)
    n (Array.replicate n false) a { w with drawn := w.drawn + 1 } (by simp) hl0 inv0 ⟨⟨w.drawn + 1, #[]⟩, by rw [grow_empty]; rfl⟩ H
  have e0 : padB (Array.replicate n false) (l.length - n) = Array.replicate l.toArray.size false := by
    apply Array.ext'
    simp only [padB, Array.toList_append, Array.toList_replicate, List.replicate_append_replicate, List.size_toArray]
    congr 1; omega
  rw [e0, show n + (l.length - n) = l.toArray.size by simp; omega] at S
  exact S
end
end Go.Proofs.Ytobchllaopdchaa
