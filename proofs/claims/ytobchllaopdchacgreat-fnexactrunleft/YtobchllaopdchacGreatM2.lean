/-
  Several texts in one.
-/
import Derived.Test.YtobchllaopdchacGreatM1
import Derived.StillTail
import Derived.Deep.Quiet
import Derived.Lib.QuietBelow
namespace Go.Proofs.YtobchllaopdchacGreat
open Go.RowKit
theorem at_cases (r : List DRecPhase) (x : ByteArray) : atI r x = -1 ∨ ∃ (k : Nat) (hk : k < r.length), atI r x = (k : Int) ∧ eqB r[k].1 x = true := by
  unfold atI idxI
  cases h : r.findIdx? (fun p : DRecPhase => eqB p.1 x) with
  | none => exact Or.inl rfl
  | some i =>
    obtain ⟨hi, hp, _⟩ := List.findIdx?_eq_some_iff_getElem.1 h
    exact Or.inr ⟨i, hi, rfl, hp⟩
theorem end_eq {a b : ByteArray} (h : eqB a b = true) : endI a = endI b := by
  have e : a.toList = b.toList := by simpa [eqB] using h
  unfold endI isT
  rw [e]
def phX (r : List DRecPhase) (x : ByteArray) : DRecPhase := (r[(atI r x).toNat]?).getD default
theorem ph_at {r : List DRecPhase} {x : ByteArray} {k : Nat} (hk : k < r.length) (h : atI r x = (k : Int)) : phX r x = r[k] := by
  unfold phX
  rw [h, Int.toNat_natCast, List.getElem?_eq_getElem hk]; rfl
theorem step_of {r : List DRecPhase} (h : RecP r) {k : Nat} (hk : k < r.length) : phaseB r[k] = true ∧ goesB r k r[k].2.2.2.2.2.2.1 = true ∧ goesB r k r[k].2.2.2.2.2.2.2 = true := by
  have := h.2 k hk
  simp only [stepB, Bool.and_eq_true] at this
  exact ⟨this.1.1.1, this.1.2, this.2⟩
theorem ph_name {p : DRecPhase} (h : phaseB p = true) : nameB p.1 = true ∧ endI p.1 = 0 ∧ (1 ≤ p.2.2.2.2.2.1 ∧ p.2.2.2.2.2.1 ≤ 1000) ∧ nameB p.2.2.1 = true := by
  simp only [phaseB, plainB, Bool.and_eq_true, inB, decide_eq_true_eq, beq_iff_eq] at h
  refine ⟨h.1.1.1.1.1, h.1.1.1.1.2, h.1.1.1.2, ?_⟩
  have ha := h.1.1.2
  unfold argsB at ha
  repeat' split at ha
  all_goals simp_all
theorem go_next {r : List DRecPhase} (h : RecP r) {k : Nat} {x : ByteArray} (hg : goesB r k x = true) (j : Nat) (hj : atI r x = (j : Int)) : k < j := by
  by_cases c : endI x = 0
  · simp [goesB, c] at hg; omega
  · exfalso
    rcases at_cases r x with e | ⟨i, hi, _, hx⟩
    · omega
    · exact c (by rw [← end_eq hx]; exact (ph_name (step_of h hi).1).2.1)
def bndF : Nat → List DRecPhase → ByteArray → Int
  | 0, _, _ => 0
  | n + 1, r, x => if atI r x < 0 then 0 else max (bndF n r (phX r x).2.2.2.2.2.2.1) (bndF n r (phX r x).2.2.2.2.2.2.2) + (phX r x).2.2.2.2.2.1
theorem bnd_le {r : List DRecPhase} (h : RecP r) : ∀ (n : Nat) (x : ByteArray), 0 ≤ bndF n r x ∧ bndF n r x ≤ 1000 * n
  | 0, x => by simp [bndF]
  | n + 1, x => by
    rcases at_cases r x with e | ⟨k, hk, e, _⟩
    · simp [bndF, e]; omega
    · have h1 := bnd_le h n (phX r x).2.2.2.2.2.2.1
      have h2 := bnd_le h n (phX r x).2.2.2.2.2.2.2
      have h3 := (ph_name (step_of h hk).1).2.2.1
      rw [← ph_at hk e] at h3
      have hx : ¬ (atI r x < 0) := by omega
      simp only [bndF, if_neg hx]
      omega
end Go.Proofs.YtobchllaopdchacGreat

namespace Go.Proofs.YtobchllaopdchacGreat
open Go.Sort
section
variable {P : Program} {md : Region.Mode} {C : World → Prop}
def downB (l : List Oper) (n : Nat) : Bool := (List.range n).all fun j => match l[j]? with
  | some o => o.guard.isNone && o.after.all fun e => decide (e.on < j)
  | none => false
theorem down_at {l : List Oper} {n j : Nat} (h : downB l n = true) (hj : j < n) : ∃ o, l[j]? = some o ∧ o.guard = none ∧ ∀ e ∈ o.after, e.on < j := by
  have h1 := List.all_eq_true.1 h j (List.mem_range.2 hj)
  cases ho : l[j]? with
  | none => rw [ho] at h1; cases h1
  | some o =>
    rw [ho] at h1
    simp only [Bool.and_eq_true, Option.isNone_iff_eq_none, Array.all_eq_true'] at h1
    exact ⟨o, rfl, h1.1, fun e he => by simpa using h1.2 e he⟩
theorem wanted_none {o : Oper} (h : o.guard = none) (ys : Nat → Option Bool) : Region.wanted o ys = true := by
  simp [Region.wanted, h]
def padB (lh : Array Bool) (t : Nat) : Array Bool := lh ++ Array.replicate t false
theorem pad_lt {lh : Array Bool} {t i : Nat} (d : Bool) (h : i < lh.size) : (padB lh t).getD i d = lh.getD i d := by
  simp [padB, Array.getElem?_append_left h]
theorem pad_set {lh : Array Bool} {t i : Nat} (h : i < lh.size) : (padB lh t).setIfInBounds i true = padB (lh.setIfInBounds i true) t := by
  apply Array.ext'
  simp only [padB, Array.toList_setIfInBounds, Array.toList_append]
  exact List.set_append_left _ _ (by rw [Array.length_toList]; exact h)
theorem ready_head {l : List Oper} {n i : Nat} {lh : Array Bool} (hd : downB l n = true) (hs : lh.size = n) (hi : i < n) :
    i ∈ Region.ready md l.toArray (padB lh (l.length - n)) ↔ i ∈ Region.ready md (l.take n).toArray lh := by
  obtain ⟨o, ho, _, hdn⟩ := down_at hd hi
  rw [mem_ready, mem_ready, pad_lt true (by omega)]
  have e1 : l.toArray[i]? = some o := by simpa using ho
  have e2 : (l.take n).toArray[i]? = some o := by simp [hi, ho]
  refine and_congr Iff.rfl ⟨fun ⟨o', h1, h2⟩ => ?_, fun ⟨o', h1, h2⟩ => ?_⟩
  · obtain rfl := Option.some.inj (e1.symm.trans h1)
    exact ⟨o, e2, fun e he hb => by rw [← pad_lt (t := l.length - n) false (by have := hdn e he; omega)]; exact h2 e he hb⟩
  · obtain rfl := Option.some.inj (e2.symm.trans h1)
    exact ⟨o, e1, fun e he hb => by rw [pad_lt false (by have := hdn e he; omega)]; exact h2 e he hb⟩
theorem ready_some {l : List Oper} {n : Nat} {lh : Array Bool} (hd : downB l n = true) (hs : lh.size = n) : ∀ (i : Nat), i < n → lh.getD i true = false → ∃ j, j < n ∧ j ∈ Region.ready md (l.take n).toArray lh := by
  intro i
  induction i using Nat.strongRecOn with
  | _ i ih =>
    intro hi hun
    obtain ⟨o, ho, _, hdn⟩ := down_at hd hi
    by_cases hr : i ∈ Region.ready md (l.take n).toArray lh
    · exact ⟨i, hi, hr⟩
    · have : ∃ e ∈ o.after, Region.binds md e = true ∧ lh.getD e.on false = false := by
        refine Classical.byContradiction fun hno => hr (mem_ready.2 ⟨hun, o, by simp [hi, ho], fun e he hb => ?_⟩)
        cases hx : lh.getD e.on false with
        | true => rfl
        | false => exact absurd ⟨e, he, hb, hx⟩ hno
      obtain ⟨e, he, _, hx⟩ := this
      have hlt := hdn e he
      exact ih e.on hlt (by omega) (getD_in (by omega) hx)
def leftN (lh : Array Bool) : Nat := (lh.toList.filter fun b => !b).length
theorem left_some {lh : Array Bool} (h : 0 < leftN lh) : ∃ i, i < lh.size ∧ lh.getD i true = false := by
  obtain ⟨b, hb⟩ := List.exists_mem_of_length_pos h
  obtain ⟨h1, h2⟩ := List.mem_filter.1 hb
  obtain ⟨i, hi, he⟩ := List.getElem_of_mem h1
  refine ⟨i, by simpa using hi, ?_⟩
  have : lh[i]? = some b := by rw [← Array.getElem?_toList, List.getElem?_eq_getElem hi, he]
  simp [Array.getD_eq_getD_getElem?, this]
  simpa using h2
theorem left_none {lh : Array Bool} (h : leftN lh = 0) : lh = Array.replicate lh.size true := by
  apply Array.ext'
  rw [Array.toList_replicate]
  refine List.eq_replicate_iff.2 ⟨by simp, fun b hb => ?_⟩
  cases b with
  | true => rfl
  | false =>
    have : false ∈ lh.toList.filter fun b => !b := List.mem_filter.2 ⟨hb, rfl⟩
    rw [List.eq_nil_of_length_eq_zero h] at this
    cases this
theorem left_list : ∀ (l : List Bool) (i : Nat), l[i]? = some false → ((l.set i true).filter fun b => !b).length + 1 = (l.filter fun b => !b).length
  | [], i, h => by simp at h
  | b :: l, 0, h => by
    simp at h; subst h; simp
  | b :: l, i + 1, h => by
    have := left_list l i (by simpa using h)
    cases b <;> simp_all
theorem left_set {lh : Array Bool} {i : Nat} (h : lh.getD i true = false) (hi : i < lh.size) : leftN (lh.setIfInBounds i true) + 1 = leftN lh := by
  unfold leftN
  rw [Array.toList_setIfInBounds]
  refine left_list lh.toList i ?_
  have : lh[i]? = some false := by
    rw [Array.getElem?_eq_getElem hi]
    have h2 := h
    rw [Array.getD_eq_getD_getElem?, Array.getElem?_eq_getElem hi] at h2
    simpa using h2
  simpa using this
theorem head_sim {l : List Oper} {n : Nat} {Q : Exit → Act → World → Prop} {Qh : Act → Prop} (hd : downB l n = true) (hn : n < l.length) (hs : Region.sinkB md l.toArray n = true) (hc : Region.chainB md l.toArray n = true)
    (hQ : ∀ a w, C w → Qh a → wpAny P md l.toArray Q (l.length - n) (padB (Array.replicate n true) (l.length - n)) a w) :
    ∀ (f : Nat) (lh : Array Bool) (a : Act) (w : World), lh.size = n → leftN lh = f → HeadInv md l.toArray n (padB lh (l.length - n)) → C w →
      wpAnyQ P md (l.take n).toArray C Qh f lh a → wpAny P md l.toArray Q (f + (l.length - n)) (padB lh (l.length - n)) a w := by
  intro f
  induction f with
  | zero =>
    intro lh a w hsz hl _ hw h
    rw [Nat.zero_add, left_none hl, hsz]
    exact hQ a w hw h.2
  | succ f ih =>
    intro lh a w hsz hl inv hw h
    obtain ⟨i0, hi0, hun0⟩ := left_some (lh := lh) (by omega)
    rw [show f + 1 + (l.length - n) = (f + (l.length - n)) + 1 by omega]
    refine ⟨fun h0 => ?_, fun i hi => ?_⟩
    · obtain ⟨j, hj, hr⟩ := ready_some (md := md) hd hsz i0 (by omega) hun0
      have := (ready_head hd hsz hj).2 hr
      rw [h0] at this
      cases this
    · have hin : i < n := by
        refine Nat.lt_of_not_le fun hle => ?_
        exact tail_waits hs hc (by simpa using hn) inv _ i0 rfl (by omega) (by rw [pad_lt true (by omega)]; exact hun0) i hle hi
      have hrh := (ready_head hd hsz hin).1 hi
      have hq := h.2 i hrh
      obtain ⟨o, ho, hg, _⟩ := down_at hd hin
      have e1 : l.toArray[i]? = some o := by simpa using ho
      have e2 : (l.take n).toArray[i]? = some o := by simp [hin, ho]
      have hun : lh.getD i true = false := (mem_ready.1 hrh).1
      unfold qOp at hq
      simp only [e2, wanted_none hg, if_true] at hq
      unfold wpOp
      simp only [e1, wanted_none hg, if_true]
      refine .inl (Oper.wp_of_quiet hw (fun a' w' hw' hk => ?_) hq)
      rw [pad_set (by omega)]
      refine ih (lh.setIfInBounds i true) a' w' (by simpa using hsz) (by have := left_set hun (by omega); omega) ?_ hw' hk
      rw [← pad_set (by omega)]
      exact inv.set hi hin
def headTailB (l : List Oper) (n : Nat) : Bool :=
  downB l n && decide (n < l.length) && Region.sinkB .any l.toArray n && Region.chainB .any l.toArray n && Region.lexB .any (l.take n).toArray && Region.seqB .any l.toArray (l.length - n) n (padB (Array.replicate n true) (l.length - n))
theorem wp_region_head_tail {id : Nat} {Q : Exit → Act → World → Prop} {a : Act} {w : World} {l : List Oper} (n : Nat) (hm : P.follows .mixedOrders = true) (hB : headTailB l n = true)
    (h : wpQuiet P (l.take n).toArray (fun w' => ∃ p : Regrown, w' = grow (redrawn w p.d) p.os) (fun a' => ∀ w', (∃ p : Regrown, w' = grow (redrawn w p.d) p.os) → wpList P l.toArray Q (l.drop n) a' w') (l.take n) a) :
    (Code.region id l.toArray true).wp P Q a w := by
  simp only [headTailB, Bool.and_eq_true, decide_eq_true_eq] at hB
  obtain ⟨⟨⟨⟨⟨hd, hn⟩, hs⟩, hc⟩, hlex⟩, hseq⟩ := hB
  simp only [Region.lexB, Bool.and_eq_true] at hlex
  have htl : (l.take n).length = n := by simp; omega
  have hdl : (l.drop n).length = l.length - n := by simp
  refine wp_region_any hm ?_
  have H := wpAnyQ_lex (P := P) (C := fun w' => ∃ p : Regrown, w' = grow (redrawn w p.d) p.os) (md := .any) hlex.1 (l.take n) 0 (Array.replicate (l.take n).toArray.size false) a (by simp) (by simpa using hlex.2) h
  have inv0 : HeadInv .any l.toArray n (padB (Array.replicate n false) (l.length - n)) := by
    have e : padB (Array.replicate n false) (l.length - n) = Array.replicate l.toArray.size false := by
      apply Array.ext'
      simp only [padB, Array.toList_append, Array.toList_replicate, List.replicate_append_replicate, List.size_toArray]
      congr 1; omega
    rw [e]
    exact ⟨by simp, fun j oj _ hl => (by rw [getD_replicate_false] at hl; cases hl), fun t _ ht => getD_in (by simpa using ht) (getD_replicate_false _ _)⟩
  have hsz : (l.take n).toArray.size = n := by simp; omega
  rw [hsz, htl] at H
  have hl0 : leftN (Array.replicate n false) = n := by simp [leftN]
  have S := head_sim (P := P) (md := .any) (C := fun w' => ∃ p : Regrown, w' = grow (redrawn w p.d) p.os) (Q := Q) (Qh := fun a' => ∀ w', (∃ p : Regrown, w' = grow (redrawn w p.d) p.os) → wpList P l.toArray Q (l.drop n) a' w') hd hn hs hc
    (fun a' w' hw' hq => by
      have := wpAny_of_seq (P := P) (md := .any) (ops := l.toArray) (Q' := Q) (l.drop n) n (padB (Array.replicate n true) (l.length - n)) a' w' (fun j => by simp [List.getElem?_drop]) (by rw [hdl]; exact hseq) (hq w' hw')
      rwa [hdl] at this)
    n (Array.replicate n false) a { w with drawn := w.drawn + 1 } (by simp) hl0 inv0 ⟨⟨w.drawn + 1, #[]⟩, by rw [grow_empty]; rfl⟩ H
  have e0 : padB (Array.replicate n false) (l.length - n) = Array.replicate l.toArray.size false := by
    apply Array.ext'
    simp only [padB, Array.toList_append, Array.toList_replicate, List.replicate_append_replicate, List.size_toArray]
    congr 1; omega
  rw [e0, show n + (l.length - n) = l.toArray.size by simp; omega] at S
  exact S
end
end Go.Proofs.YtobchllaopdchacGreat

namespace Go.Proofs.YtobchllaopdchacGreat
open Go.Sort
section
variable {P : Program} {md : Region.Mode} {ops : Array Oper} {C : World → Prop} {n : Nat} {L : Array Bool → Act → World → Prop}
def valB (o : Oper) : Bool := match o.op with
  | .move _ | .assign _ | .load _ _ | .fieldAddr _ _ _ | .indexAddr _ _ _ | .slice _ _ _ _ _ | .index _ _ _ | .binOp _ _ _ _ _ | .build _ _ | .extract _ _ => true
  | .call { callee := .builtin .len, .. } => true
  | _ => false
theorem then_value {r : Result Value} {f : FuncId} {args : Array Value} {w : World} : r.andThen (fun a w' => .ok (Next.value a) w') ≠ .ok (.enter f args) w := by
  cases r <;> simp [Result.andThen]
theorem v_ne (s : Sem Value) (f : FuncId) (args : Array Value) (w w' : World) : Sem.run P (do let x ← s; pure (Next.value x)) w ≠ .ok (.enter f args) w' := by
  simp only [Sem.run_bind, Sem.run_pure]; exact then_value
theorem val_only {o : Oper} (h : valB o = true) (ρ : Operand → Value) (w : World) (f : FuncId) (args : Array Value) (w' : World) : (execOp ρ o).run P w ≠ .ok (.enter f args) w' := by
  unfold valB at h
  unfold execOp
  split at h <;> rename_i heq
  all_goals (try (cases h; done))
  all_goals rw [heq]
  all_goals first
    | exact v_ne _ _ _ _ _
    | (intro e; cases e)
theorem val_of_quiet {o : Oper} (h : valB o = true) {a : Act} {v : Value} (hq : ∀ w, C w → o.quietAt P a C w v) (hs : ∀ w, C w → ∀ w', (execOp a.eval o).run P w ≠ .ok .skip w') : ∀ w, C w → (execOp a.eval o).run P w = .ok (.value v) w := by
  intro w hw
  have h1 := hq w hw
  unfold Oper.quietAt at h1
  have h2 := val_only (P := P) h a.eval w
  have h3 := hs w hw
  generalize (execOp a.eval o).run P w = r at *
  cases r with
  | halt x w' => simp only [Oper.quietUpon] at h1
  | ok m w' =>
    cases m with
    | value u => simp only [Oper.quietUpon] at h1; rw [h1.1, h1.2]
    | skip => exact absurd rfl (h3 w')
    | enter f args => exact absurd rfl (h2 f args w')
    | _ => simp only [Oper.quietUpon] at h1
theorem then_skip {r : Result Value} {w : World} : r.andThen (fun a w' => .ok (Next.value a) w') ≠ .ok .skip w := by
  cases r <;> simp [Result.andThen]
theorem v_ns (s : Sem Value) (w w' : World) : Sem.run P (do let x ← s; pure (Next.value x)) w ≠ .ok .skip w' := by
  simp only [Sem.run_bind, Sem.run_pure]; exact then_skip
theorem val_skip {o : Oper} (h : valB o = true) (ρ : Operand → Value) (w w' : World) : (execOp ρ o).run P w ≠ .ok .skip w' := by
  unfold valB at h
  unfold execOp
  split at h <;> rename_i heq
  all_goals (try (cases h; done))
  all_goals rw [heq]
  all_goals first
    | exact v_ns _ _ _
    | (intro e; cases e)
def stepC (P : Program) (ops : Array Oper) (i : Nat) (K : Act → World → Prop) (a : Act) (w : World) : Prop :=
  ∃ o, ops[i]? = some o ∧ o.guard = none ∧ ∃ u w', (execOp a.eval o).run P w = .ok (.value u) w' ∧ K (a.put o.dst u) w'
def stepE (P : Program) (ops : Array Oper) (i : Nat) (K : Act → World → Prop) (a : Act) (w : World) : Prop :=
  ∃ o, ops[i]? = some o ∧ o.guard = none ∧ ∃ f args, (execOp a.eval o).run P w = .ok (.enter f args) w ∧ Calls P f args w (fun e w'' => ∃ u, e = .returned u ∧ K (a.put o.dst u) w'')
def anyC (P : Program) (md : Region.Mode) (ops : Array Oper) (C : World → Prop) (n : Nat) (L : Array Bool → Act → World → Prop) : Nat → Array Bool → Act → World → Prop
  | 0, listed, a, w => L listed a w
  | f + 1, listed, a, w => Region.ready md ops listed ≠ [] ∧ ∀ i ∈ Region.ready md ops listed, i < n ∧ (stepC P ops i (fun a' w' => C w' ∧ anyC P md ops C n L f (listed.setIfInBounds i true) a' w') a w ∨ stepE P ops i (fun a' w' => C w' ∧ anyC P md ops C n L f (listed.setIfInBounds i true) a' w') a w)
theorem any_of_C {Q : Exit → Act → World → Prop} {g : Nat} (hL : ∀ listed a w, L listed a w → wpAny P md ops Q g listed a w) :
    ∀ (f : Nat) (listed : Array Bool) (a : Act) (w : World), anyC P md ops C n L f listed a w → wpAny P md ops Q (f + g) listed a w
  | 0, listed, a, w, h => by rw [Nat.zero_add]; exact hL _ _ _ h
  | f + 1, listed, a, w, h => by
    rw [show f + 1 + g = (f + g) + 1 by omega]
    refine ⟨fun h0 => absurd h0 h.1, fun i hi => ?_⟩
    rcases (h.2 i hi).2 with ⟨o, ho, hg, u, w', hr, _, hk⟩ | ⟨o, ho, hg, fn, args, hr, hk⟩
    · unfold wpOp
      simp only [ho, wanted_none hg, if_true]
      refine .inl ?_
      unfold Oper.wp
      rw [hr]
      exact any_of_C hL f _ _ _ hk
    · unfold wpOp
      simp only [ho, wanted_none hg, if_true]
      refine .inl ?_
      unfold Oper.wp
      rw [hr]
      exact hk.mono fun e w'' ⟨u, he, _, hk'⟩ => by subst he; exact any_of_C hL f _ _ _ hk'
theorem anyC_first {i : Nat} {oi : Oper} {v : Value} (hi : ops[i]? = some oi) (hgi : oi.guard = none) (hsel : Region.noSelect ops = true) (hs : Region.sinkB md ops n = true) (hc : Region.chainB md ops n = true) (hn : n < ops.size) (hin : i < n)
    (hdone : ∀ listed a w, L listed a w → ∀ j ∈ Region.ready md ops listed, n ≤ j) :
    ∀ (f : Nat) (listed : Array Bool) (a : Act) (w : World), C w → HeadInv md ops n listed →
      (∀ j oj, ops[j]? = some oj → j ≠ i → listed.getD j true = false → (∀ e ∈ oj.after, Region.binds md e = true → e.on ≠ i) → oi.apart ops oj = true) →
      i ∈ Region.ready md ops listed → (∀ w, C w → (execOp a.eval oi).run P w = .ok (.value v) w) →
      anyC P md ops C n L f (listed.setIfInBounds i true) (a.put oi.dst v) w → anyC P md ops C n L (f + 1) listed a w := by
  intro f
  induction f with
  | zero =>
    intro listed a w hw inv _ hr hy H
    refine ⟨(fun h => by rw [h] at hr; cases hr), fun j hj => ?_⟩
    by_cases hji : j = i
    · subst hji; exact ⟨hin, .inl ⟨oi, hi, hgi, v, w, hy w hw, hw, H⟩⟩
    · have h1 := hdone _ _ _ H j (ready_mono hj hji)
      exact absurd hj (tail_waits hs hc hn inv _ i rfl hin (mem_ready.1 hr).1 j h1)
  | succ f ih =>
    intro listed a w hw inv hfree hr hy H
    refine ⟨(fun h => by rw [h] at hr; cases hr), fun j hj => ?_⟩
    by_cases hji : j = i
    · subst hji; exact ⟨hin, .inl ⟨oi, hi, hgi, v, w, hy w hw, hw, H⟩⟩
    · obtain ⟨hjn, hstep⟩ := H.2 j (ready_mono hj hji)
      obtain ⟨hjun, oj, hoj, hall⟩ := mem_ready.1 hj
      have hiun := (mem_ready.1 hr).1
      have hnot : ∀ e ∈ oj.after, Region.binds md e = true → e.on ≠ i := fun e he hb heq => by
        have h1 := hall e he hb
        rw [heq, getD_both hiun] at h1
        cases h1
      obtain ⟨h1, h2, h3⟩ := Oper.apart_spec (hfree j oj hoj hji hjun hnot)
      have hex : execOp (a.put oi.dst v).eval oj = execOp a.eval oj := execOp_put (ops := ops) oj (fun cs b => Region.noSelect_spec hsel j oj cs b hoj) a oi.dst v h1
      have next : ∀ u w', C w' → anyC P md ops C n L f ((listed.setIfInBounds i true).setIfInBounds j true) ((a.put oi.dst v).put oj.dst u) w' → anyC P md ops C n L (f + 1) (listed.setIfInBounds j true) (a.put oj.dst u) w' := by
        intro u w' hC' hrest
        refine ih (listed.setIfInBounds j true) (a.put oj.dst u) w' hC' (inv.set hj hjn) ?_ (ready_mono hr (Ne.symm hji)) ?_ ?_
        · intro k ok hk hki hun hno
          refine hfree k ok hk hki ?_ hno
          by_cases hjk : j = k
          · subst hjk; exact hjun
          · rw [getD_set_ne true hjk] at hun; exact hun
        · intro w1 hw1
          rw [execOp_put (ops := ops) oi (fun cs b => Region.noSelect_spec hsel i oi cs b hi) a oj.dst u h3]
          exact hy w1 hw1
        · rw [Array.setIfInBounds_comm _ _ hji, ← Act.put_comm a v u h2]
          exact hrest
      refine ⟨hjn, ?_⟩
      rcases hstep with ⟨oj', hoj', hgj, u, w', hrun, hC', hrest⟩ | ⟨oj', hoj', hgj, fn, args, hrun, hrest⟩
      · obtain rfl := Option.some.inj (hoj.symm.trans hoj')
        exact .inl ⟨oj, hoj, hgj, u, w', by rw [← hex]; exact hrun, hC', next u w' hC' hrest⟩
      · obtain rfl := Option.some.inj (hoj.symm.trans hoj')
        exact .inr ⟨oj, hoj, hgj, fn, args, by rw [← hex]; exact hrun, hrest.mono fun e w'' ⟨u, he, hC', hk⟩ => ⟨u, he, hC', next u w'' hC' hk⟩⟩
def mixB (md : Region.Mode) (ops : Array Oper) (n : Nat) : List Nat → Array Bool → Bool
  | [], _ => true
  | k :: ks, listed => (Region.ready md ops listed).contains k && Region.free md ops listed k && decide (k < n) && (match ops[k]? with | some o => valB o && o.guard.isNone | none => false) && mixB md ops n ks (listed.setIfInBounds k true)
def listAll (ks : List Nat) (listed : Array Bool) : Array Bool := ks.foldl (fun l k => l.setIfInBounds k true) listed
theorem anyC_lex (hsel : Region.noSelect ops = true) (hs : Region.sinkB md ops n = true) (hc : Region.chainB md ops n = true) (hn : n < ops.size) (hdone : ∀ listed a w, L listed a w → ∀ j ∈ Region.ready md ops listed, n ≤ j) (g : Nat) (w : World) (hw : C w) :
    ∀ (ks : List Nat) (os : List Oper) (listed : Array Bool) (a : Act), os.map some = ks.map (ops[·]?) → HeadInv md ops n listed → mixB md ops n ks listed = true →
      wpQuiet P ops C (fun a' => anyC P md ops C n L g (listAll ks listed) a' w) os a → anyC P md ops C n L (ks.length + g) listed a w
  | [], os, listed, a, he, _, _, h => by
    have : os = [] := by simpa using he
    subst this
    rw [List.length_nil, Nat.zero_add]; exact h
  | k :: ks, os, listed, a, he, inv, hB, h => by
    match os, he with
    | o :: os, he =>
      simp only [List.map_cons, List.cons.injEq] at he
      obtain ⟨ho, he⟩ := he
      simp only [mixB, ← ho, Bool.and_eq_true, decide_eq_true_eq, Option.isNone_iff_eq_none] at hB
      obtain ⟨⟨⟨⟨hr, hf⟩, hk⟩, hv, hg⟩, hB'⟩ := hB
      have hr' : k ∈ Region.ready md ops listed := by simpa using hr
      simp only [wpQuiet, wanted_none hg, if_true] at h
      obtain ⟨v, hq, hnext⟩ := h
      rw [List.length_cons, show ks.length + 1 + g = (ks.length + g) + 1 by omega]
      exact anyC_first ho.symm hg hsel hs hc hn hk hdone _ listed a w hw inv (Region.free_spec ho.symm hf) hr' (val_of_quiet hv hq (fun w _ w' => val_skip hv a.eval w w'))
        (anyC_lex hsel hs hc hn hdone g w hw ks os _ _ he (inv.set hr' hk) hB' hnext)
def mixTailB (l : List Oper) (n : Nat) (ks : List Nat) : Bool :=
  Region.noSelect l.toArray && decide (n < l.length) && decide (ks.length ≤ n) && Region.sinkB .any l.toArray n && Region.chainB .any l.toArray n && mixB .any l.toArray n ks (Array.replicate l.length false)
def tailC (P : Program) (Q : Exit → Act → World → Prop) (l : List Oper) (n : Nat) (listed : Array Bool) (a : Act) (w : World) : Prop :=
  Region.seqB .any l.toArray (l.length - n) n listed = true ∧ wpList P l.toArray Q (l.drop n) a w
theorem wp_region_mixed {id : Nat} {Q : Exit → Act → World → Prop} {a : Act} {w : World} {l : List Oper} (n : Nat) (ks : List Nat) (os : List Oper) (hm : P.follows .mixedOrders = true) (hB : mixTailB l n ks = true) (hos : os.map some = ks.map (l.toArray[·]?))
    (h : wpQuiet P l.toArray (fun w' => ∃ p : Regrown, w' = grow (redrawn w p.d) p.os) (fun a' => anyC P .any l.toArray (fun w' => ∃ p : Regrown, w' = grow (redrawn w p.d) p.os) n (tailC P Q l n) (n - ks.length) (listAll ks (Array.replicate l.length false)) a' w.drew) os a) :
    (Code.region id l.toArray true).wp P Q a w := by
  simp only [mixTailB, Bool.and_eq_true, decide_eq_true_eq] at hB
  obtain ⟨⟨⟨⟨⟨hsel, hn⟩, hkn⟩, hs⟩, hc⟩, hmix⟩ := hB
  have hn' : n < l.toArray.size := by simpa using hn
  have hdl : (l.drop n).length = l.length - n := by simp
  have inv0 : HeadInv .any l.toArray n (Array.replicate l.length false) :=
    ⟨by simp, fun j oj _ hl => (by rw [getD_replicate_false] at hl; cases hl), fun t _ ht => getD_in (by simpa using ht) (getD_replicate_false _ _)⟩
  have H := anyC_lex (P := P) (md := .any) (L := tailC P Q l n) hsel hs hc hn' (fun listed a w hL => seqB_ready hL.1) (n - ks.length) w.drew ⟨⟨w.drawn + 1, #[]⟩, by rw [grow_empty]; rfl⟩ ks os _ a hos inv0 hmix h
  have G := any_of_C (Q := Q) (g := l.length - n) (fun listed a' w' hL => by
    have := wpAny_of_seq (P := P) (md := .any) (ops := l.toArray) (Q' := Q) (l.drop n) n listed a' w' (fun j => by simp [List.getElem?_drop]) (by rw [hdl]; exact hL.1) hL.2
    rwa [hdl] at this) _ _ _ _ H
  rw [show ks.length + (n - ks.length) + (l.length - n) = l.toArray.size by simp; omega] at G
  refine wp_region_any hm ?_
  simpa using G
theorem mix_ops {l : List Oper} {n : Nat} : ∀ (ks : List Nat) (listed : Array Bool), mixB md l.toArray n ks listed = true → (ks.filterMap fun k => l[k]?).map some = ks.map (l.toArray[·]?)
  | [], _, _ => rfl
  | k :: ks, listed, h => by
    simp only [mixB, Bool.and_eq_true] at h
    obtain ⟨⟨_, hv⟩, h'⟩ := h
    have ih := mix_ops ks _ h'
    cases ho : l[k]? with
    | none => simp [ho] at hv
    | some o =>
      rw [List.filterMap_cons]
      simp only [ho, List.map_cons, ih]
      simp [ho]
theorem wp_region_mix {id : Nat} {Q : Exit → Act → World → Prop} {a : Act} {w : World} {l : List Oper} (n : Nat) (ks : List Nat) (hm : P.follows .mixedOrders = true) (hB : mixTailB l n ks = true)
    (h : wpQuiet P l.toArray (fun w' => ∃ p : Regrown, w' = grow (redrawn w p.d) p.os) (fun a' => anyC P .any l.toArray (fun w' => ∃ p : Regrown, w' = grow (redrawn w p.d) p.os) n (tailC P Q l n) (n - ks.length) (listAll ks (Array.replicate l.length false)) a' w.drew) (ks.filterMap fun k => l[k]?) a) :
    (Code.region id l.toArray true).wp P Q a w := by
  refine wp_region_mixed n ks _ hm hB ?_ h
  simp only [mixTailB, Bool.and_eq_true] at hB
  exact mix_ops ks _ hB.2
theorem anyC_step {f : Nat} {listed : Array Bool} {a : Act} {w : World} (rs : List Nat) (hr : Region.ready md ops listed = rs) (h0 : rs ≠ []) (h : ∀ i ∈ rs, i < n ∧ stepC P ops i (fun a' w' => C w' ∧ anyC P md ops C n L f (listed.setIfInBounds i true) a' w') a w) : anyC P md ops C n L (f + 1) listed a w := by
  subst hr; exact ⟨h0, fun i hi => ⟨(h i hi).1, .inl (h i hi).2⟩⟩
theorem anyC_call {f : Nat} {listed : Array Bool} {a : Act} {w : World} (i : Nat) (hr : Region.ready md ops listed = [i]) (hi : i < n) (h : stepE P ops i (fun a' w' => C w' ∧ anyC P md ops C n L f (listed.setIfInBounds i true) a' w') a w) : anyC P md ops C n L (f + 1) listed a w := by
  refine ⟨by rw [hr]; simp, fun j hj => ?_⟩
  rw [hr] at hj
  obtain rfl := List.mem_singleton.1 hj
  exact ⟨hi, .inr h⟩
end
end Go.Proofs.YtobchllaopdchacGreat
