/-
  Several texts in one.
-/
import Derived.Test.YtaejlcanccfmmaaGreatDoorHm
import Derived.Test.YtaejlcanccfmmaaGreatDoorM5
namespace Go.Proofs.YtaejlcanccfmmaaGreatDoor
open Go.Sort
section
variable {P : Program} {md : Region.Mode} {ops : Array Oper} {C : World → Prop} {n : Nat} {L : Array Bool → Act → World → Prop}
def valH (o : Oper) : Bool := match o.op with
  | .pick _ _ _ => true
  | .nilCheck _ => true
  | _ => valB o
theorem nil_run {ρ : Operand → Value} {o : Oper} {x : Operand} (h : o.op = .nilCheck x) (w w' : World) (m : Next) (hr : (execOp ρ o).run P w = .ok m w') : ∃ u, m = .value u := by
  unfold execOp at hr
  rw [h] at hr
  simp only [] at hr
  split at hr
  · simp [runtimePanic] at hr
  · simp [runtimePanic] at hr
  · simp [runtimePanic] at hr
  · split at hr
    · simp [runtimePanic] at hr
    · simp only [Sem.run_bind] at hr
      generalize Sem.run P program w = r0 at hr
      cases r0 with
      | halt x w1 => simp [Result.andThen] at hr
      | ok p0 w0 =>
        simp only [Result.andThen] at hr
        generalize Sem.run P (nilAhead _ _ _ _) w0 = r1 at hr
        cases r1 with
        | halt x w1 => simp at hr
        | ok b w1 =>
          simp only [] at hr
          split at hr
          · simp [unsupported] at hr
          · simp at hr
            exact ⟨_, hr.1.symm⟩
    · simp only [Sem.run_pure] at hr; cases hr; exact ⟨_, rfl⟩
  · simp only [Sem.run_pure] at hr; cases hr; exact ⟨_, rfl⟩
theorem pick_run {ρ : Operand → Value} {o : Oper} {c x y : Operand} (h : o.op = .pick c x y) (w w' : World) (m : Next) (hr : (execOp ρ o).run P w = .ok m w') : ∃ u, m = .value u := by
  unfold execOp at hr
  rw [h] at hr
  have hr' : Sem.run P (do let b ← asBool (ρ c); pure (Next.value (if b = true then ρ x else ρ y))) w = .ok m w' := hr
  simp only [Sem.run_bind, Sem.run_pure] at hr'
  generalize Sem.run P (asBool (ρ c)) w = r at hr'
  cases r with
  | halt x w1 => simp [Result.andThen] at hr'
  | ok b w1 => simp only [Result.andThen] at hr'; cases hr'; exact ⟨_, rfl⟩
theorem valH_only {o : Oper} (h : valH o = true) (ρ : Operand → Value) (w : World) (f : FuncId) (args : Array Value) (w' : World) : (execOp ρ o).run P w ≠ .ok (.enter f args) w' := by
  unfold valH at h
  split at h
  · rename_i heq
    intro e
    obtain ⟨u, hu⟩ := pick_run heq w w' _ e
    cases hu
  · rename_i heq
    intro e
    obtain ⟨u, hu⟩ := nil_run heq w w' _ e
    cases hu
  · exact val_only h ρ w f args w'
theorem valH_skip {o : Oper} (h : valH o = true) (ρ : Operand → Value) (w w' : World) : (execOp ρ o).run P w ≠ .ok .skip w' := by
  unfold valH at h
  split at h
  · rename_i heq
    intro e
    obtain ⟨u, hu⟩ := pick_run heq w w' _ e
    cases hu
  · rename_i heq
    intro e
    obtain ⟨u, hu⟩ := nil_run heq w w' _ e
    cases hu
  · exact val_skip h ρ w w'
theorem valH_of_quiet {o : Oper} (h : valH o = true) {a : Act} {v : Value} (hq : ∀ w, C w → o.quietAt P a C w v) : ∀ w, C w → (execOp a.eval o).run P w = .ok (.value v) w := by
  intro w hw
  have h1 := hq w hw
  unfold Oper.quietAt at h1
  have h2 := valH_only (P := P) h a.eval w
  have h3 := valH_skip (P := P) h a.eval w
  generalize (execOp a.eval o).run P w = r at *
  cases r with
  | halt x w' => simp only [Oper.quietUpon] at h1
  | ok m w' =>
    cases m with
    | value u => simp only [Oper.quietUpon] at h1; rw [h1.1, h1.2]
    | skip => exact absurd rfl (h3 w')
    | enter f args => exact absurd rfl (h2 f args w')
    | _ => simp only [Oper.quietUpon] at h1
def stepH (P : Program) (ops : Array Oper) (i : Nat) (K : Act → World → Prop) (a : Act) (w : World) : Prop :=
  ∃ o, ops[i]? = some o ∧
    ((Region.wanted o (yielded ops a.tmps) = true ∧ ∃ u w', (execOp a.eval o).run P w = .ok (.value u) w' ∧ K (a.put o.dst u) w') ∨
     (Region.wanted o (yielded ops a.tmps) = true ∧ ∃ f args, (execOp a.eval o).run P w = .ok (.enter f args) w ∧ Calls P f args w (fun e w'' => ∃ u, e = .returned u ∧ K (a.put o.dst u) w'')) ∨
     (Region.wanted o (yielded ops a.tmps) = false ∧ K (a.put o.dst undef) w) ∨
     (Region.wanted o (yielded ops a.tmps) = true ∧ ∃ w', (execOp a.eval o).run P w = .ok .skip w' ∧ K (a.put o.dst undef) w'))
theorem stepH.mono {i : Nat} {K K' : Act → World → Prop} {a : Act} {w : World} (h : stepH P ops i K a w) (hk : ∀ a w, K a w → K' a w) : stepH P ops i K' a w := by
  obtain ⟨o, ho, h⟩ := h
  refine ⟨o, ho, ?_⟩
  rcases h with ⟨hg, u, w', hr, h⟩ | ⟨hg, f, args, hr, h⟩ | ⟨hg, h⟩ | ⟨hg, w', hr, h⟩
  · exact .inl ⟨hg, u, w', hr, hk _ _ h⟩
  · exact .inr (.inl ⟨hg, f, args, hr, h.mono fun e w'' ⟨u, he, h⟩ => ⟨u, he, hk _ _ h⟩⟩)
  · exact .inr (.inr (.inl ⟨hg, hk _ _ h⟩))
  · exact .inr (.inr (.inr ⟨hg, w', hr, hk _ _ h⟩))
def anyH (P : Program) (md : Region.Mode) (ops : Array Oper) (C : World → Prop) (n : Nat) (L : Array Bool → Act → World → Prop) : Nat → Array Bool → Act → World → Prop
  | 0, listed, a, w => L listed a w
  | f + 1, listed, a, w => Region.ready md ops listed ≠ [] ∧ ∀ i ∈ Region.ready md ops listed, i < n ∧ stepH P ops i (fun a' w' => C w' ∧ anyH P md ops C n L f (listed.setIfInBounds i true) a' w') a w
theorem any_of_H {Q : Exit → Act → World → Prop} {g : Nat} (hL : ∀ listed a w, L listed a w → wpAny P md ops Q g listed a w) :
    ∀ (f : Nat) (listed : Array Bool) (a : Act) (w : World), anyH P md ops C n L f listed a w → wpAny P md ops Q (f + g) listed a w
  | 0, listed, a, w, h => by rw [Nat.zero_add]; exact hL _ _ _ h
  | f + 1, listed, a, w, h => by
    rw [show f + 1 + g = (f + g) + 1 by omega]
    refine ⟨fun h0 => absurd h0 h.1, fun i hi => ?_⟩
    obtain ⟨o, ho, h'⟩ := (h.2 i hi).2
    rcases h' with ⟨hg, u, w', hr, _, hk⟩ | ⟨hg, fn, args, hr, hk⟩ | ⟨hg, _, hk⟩ | ⟨hg, w', hr, _, hk⟩
    · unfold wpOp
      simp only [ho, hg, if_true]
      refine .inl ?_
      unfold Oper.wp
      rw [hr]
      exact any_of_H hL f _ _ _ hk
    · unfold wpOp
      simp only [ho, hg, if_true]
      refine .inl ?_
      unfold Oper.wp
      rw [hr]
      exact hk.mono fun e w'' ⟨u, he, _, hk'⟩ => by subst he; exact any_of_H hL f _ _ _ hk'
    · unfold wpOp
      simp only [ho, hg]
      exact any_of_H hL f _ _ _ hk
    · unfold wpOp
      simp only [ho, hg, if_true]
      refine .inl ?_
      unfold Oper.wp
      rw [hr]
      exact any_of_H hL f _ _ _ hk
def waitB (md : Region.Mode) (ops : Array Oper) (n : Nat) (done : Array Bool) : Bool :=
  (List.range n).all fun i => done.getD i false || (List.range (n + 1)).any fun j => decide (i < j) && Region.waitsFor md ops j i
theorem tail_waitsH {done listed : Array Bool} (hs : waitB md ops n done = true) (hc : Region.chainB md ops n = true) (hn : n < ops.size) (inv : HeadInv md ops n listed) (hd : ∀ k, done.getD k false = true → listed.getD k false = true) :
    ∀ (d i : Nat), n - i = d → i < n → listed.getD i true = false → ∀ t, n ≤ t → t ∉ Region.ready md ops listed := by
  intro d
  induction d using Nat.strongRecOn with
  | _ d ih =>
    intro i hdi hi hun t ht hr
    obtain ⟨_, ot, hot, hall⟩ := mem_ready.1 hr
    have htlt : t < ops.size := (Array.getElem?_eq_some_iff.1 hot).1
    by_cases htn : t = n
    · subst htn
      have h1 := List.all_eq_true.1 hs i (List.mem_range.2 hi)
      rw [Bool.or_eq_true] at h1
      rcases h1 with h1 | h1
      · have := hd i h1
        rw [getD_both hun] at this
        cases this
      obtain ⟨j, hj, hj2⟩ := List.any_eq_true.1 h1
      simp only [Bool.and_eq_true, decide_eq_true_eq] at hj2
      obtain ⟨oj, hoj, e, he, hb, hon⟩ := Region.waitsFor_spec hj2.2
      have hjle : j ≤ t := by have := List.mem_range.1 hj; omega
      by_cases hjt : j = t
      · subst hjt
        have : oj = ot := Option.some.inj (hoj.symm.trans hot)
        subst this
        have h2 := hall e he hb
        rw [hon, getD_both hun] at h2
        cases h2
      · cases hl : listed.getD j false with
        | true =>
          have h2 := inv.closed j oj hoj hl e he hb
          rw [hon, getD_both hun] at h2
          cases h2
        | false =>
          have hjs : j < listed.size := by rw [inv.size]; omega
          exact ih (t - j) (by omega) j rfl (by omega) (getD_in hjs hl) t (Nat.le_refl _) hr
    · have h1 := List.all_eq_true.1 hc t (List.mem_range.2 htlt)
      simp only [Bool.or_eq_true, decide_eq_true_eq] at h1
      rcases h1 with h1 | h1
      · omega
      · obtain ⟨o', ho', e, he, hb, hon⟩ := Region.waitsFor_spec h1
        have : o' = ot := Option.some.inj (ho'.symm.trans hot)
        subst this
        have h2 := hall e he hb
        rw [hon, getD_both (inv.tail (t - 1) (by omega) (by omega))] at h2
        cases h2
theorem anyH_first {done : Array Bool} {i : Nat} {oi : Oper} {v : Value} (hi : ops[i]? = some oi) (hsel : Region.noSelect ops = true) (hs : waitB md ops n done = true) (hc : Region.chainB md ops n = true) (hn : n < ops.size) (hin : i < n)
    (hdone : ∀ listed a w, L listed a w → ∀ j ∈ Region.ready md ops listed, n ≤ j) :
    ∀ (f : Nat) (listed : Array Bool) (a : Act) (w : World), C w → HeadInv md ops n listed → (∀ k, done.getD k false = true → listed.getD k false = true) →
      (∀ j oj, ops[j]? = some oj → j ≠ i → listed.getD j true = false → (∀ e ∈ oj.after, Region.binds md e = true → e.on ≠ i) → oi.apart ops oj = true) →
      i ∈ Region.ready md ops listed → ((Region.wanted oi (yielded ops a.tmps) = true ∧ ∀ w, C w → (execOp a.eval oi).run P w = .ok (.value v) w) ∨ (Region.wanted oi (yielded ops a.tmps) = false ∧ v = undef)) →
      anyH P md ops C n L f (listed.setIfInBounds i true) (a.put oi.dst v) w → anyH P md ops C n L (f + 1) listed a w := by
  intro f
  have self : ∀ (listed : Array Bool) (a : Act) (w : World) (f : Nat), C w → ((Region.wanted oi (yielded ops a.tmps) = true ∧ ∀ w, C w → (execOp a.eval oi).run P w = .ok (.value v) w) ∨ (Region.wanted oi (yielded ops a.tmps) = false ∧ v = undef)) →
      anyH P md ops C n L f (listed.setIfInBounds i true) (a.put oi.dst v) w → stepH P ops i (fun a' w' => C w' ∧ anyH P md ops C n L f (listed.setIfInBounds i true) a' w') a w := by
    intro listed a w f hw hy H
    rcases hy with ⟨hg, hy⟩ | ⟨hg, hy⟩
    · exact ⟨oi, hi, .inl ⟨hg, v, w, hy w hw, hw, H⟩⟩
    · rw [hy] at H
      exact ⟨oi, hi, .inr (.inr (.inl ⟨hg, hw, H⟩))⟩
  induction f with
  | zero =>
    intro listed a w hw inv hd _ hr hy H
    refine ⟨(fun h => by rw [h] at hr; cases hr), fun j hj => ?_⟩
    by_cases hji : j = i
    · subst hji; exact ⟨hin, self _ _ _ _ hw hy H⟩
    · have h1 := hdone _ _ _ H j (ready_mono hj hji)
      exact absurd hj (tail_waitsH hs hc hn inv hd _ i rfl hin (mem_ready.1 hr).1 j h1)
  | succ f ih =>
    intro listed a w hw inv hd hfree hr hy H
    refine ⟨(fun h => by rw [h] at hr; cases hr), fun j hj => ?_⟩
    by_cases hji : j = i
    · subst hji; exact ⟨hin, self _ _ _ _ hw hy H⟩
    · obtain ⟨hjn, hstep⟩ := H.2 j (ready_mono hj hji)
      obtain ⟨hjun, oj, hoj, hall⟩ := mem_ready.1 hj
      have hiun := (mem_ready.1 hr).1
      have hnot : ∀ e ∈ oj.after, Region.binds md e = true → e.on ≠ i := fun e he hb heq => by
        have h1 := hall e he hb
        rw [heq, getD_both hiun] at h1
        cases h1
      obtain ⟨h1, h2, h3⟩ := Oper.apart_spec (hfree j oj hoj hji hjun hnot)
      have hex : execOp (a.put oi.dst v).eval oj = execOp a.eval oj := execOp_put (ops := ops) oj (fun cs b => Region.noSelect_spec hsel j oj cs b hoj) a oi.dst v h1
      have hwj : Region.wanted oj (yielded ops (a.put oi.dst v).tmps) = Region.wanted oj (yielded ops a.tmps) := wanted_put oj a oi.dst v h1
      have next : ∀ u w', C w' → anyH P md ops C n L f ((listed.setIfInBounds i true).setIfInBounds j true) ((a.put oi.dst v).put oj.dst u) w' → anyH P md ops C n L (f + 1) (listed.setIfInBounds j true) (a.put oj.dst u) w' := by
        intro u w' hC' hrest
        refine ih (listed.setIfInBounds j true) (a.put oj.dst u) w' hC' (inv.set hj hjn) (fun k hk => getD_set_true (hd k hk)) ?_ (ready_mono hr (Ne.symm hji)) ?_ ?_
        · intro k ok hk hki hun hno
          refine hfree k ok hk hki ?_ hno
          by_cases hjk : j = k
          · subst hjk; exact hjun
          · rw [getD_set_ne true hjk] at hun; exact hun
        · rw [wanted_put oi a oj.dst u h3, execOp_put (ops := ops) oi (fun cs b => Region.noSelect_spec hsel i oi cs b hi) a oj.dst u h3]
          exact hy
        · rw [Array.setIfInBounds_comm _ _ hji, ← Act.put_comm a v u h2]
          exact hrest
      refine ⟨hjn, ?_⟩
      obtain ⟨oj', hoj', hstep⟩ := hstep
      obtain rfl := Option.some.inj (hoj.symm.trans hoj')
      refine ⟨oj, hoj, ?_⟩
      rw [hwj, hex] at hstep
      rcases hstep with ⟨hgj, u, w', hrun, hC', hrest⟩ | ⟨hgj, fn, args, hrun, hrest⟩ | ⟨hgj, hC', hrest⟩ | ⟨hgj, w', hrun, hC', hrest⟩
      · exact .inl ⟨hgj, u, w', hrun, hC', next u w' hC' hrest⟩
      · exact .inr (.inl ⟨hgj, fn, args, hrun, hrest.mono fun e w'' ⟨u, he, hC', hk⟩ => ⟨u, he, hC', next u w'' hC' hk⟩⟩)
      · exact .inr (.inr (.inl ⟨hgj, hC', next undef w hC' hrest⟩))
      · exact .inr (.inr (.inr ⟨hgj, w', hrun, hC', next undef w' hC' hrest⟩))
def mixH (md : Region.Mode) (ops : Array Oper) (n : Nat) : List Nat → Array Bool → Bool
  | [], _ => true
  | k :: ks, listed => (Region.ready md ops listed).contains k && Region.free md ops listed k && decide (k < n) && (match ops[k]? with | some o => valH o | none => false) && mixH md ops n ks (listed.setIfInBounds k true)
def mvOf (o : Oper) : Option Operand := match o.op with | .move x => some x | .assign x => some x | _ => none
def mixV (md : Region.Mode) (ops : Array Oper) (n : Nat) : List Nat → Array Bool → Bool
  | [], _ => true
  | k :: ks, listed => (Region.ready md ops listed).contains k && Region.free md ops listed k && decide (k < n) && (match ops[k]? with | some o => (mvOf o).isSome && o.guard.isNone | none => false) && mixV md ops n ks (listed.setIfInBounds k true)
def movD : List Oper → Act → Act
  | [], a => a
  | o :: os, a => movD os (a.put o.dst (match mvOf o with | some x => a.eval x | none => undef))
theorem anyH_lex {done : Array Bool} (hsel : Region.noSelect ops = true) (hs : waitB md ops n done = true) (hc : Region.chainB md ops n = true) (hn : n < ops.size) (hdone : ∀ listed a w, L listed a w → ∀ j ∈ Region.ready md ops listed, n ≤ j) (g : Nat) (w : World) (hw : C w) :
    ∀ (ks : List Nat) (os : List Oper) (listed : Array Bool) (a : Act), os.map some = ks.map (ops[·]?) → HeadInv md ops n listed → (∀ k, done.getD k false = true → listed.getD k false = true) → mixH md ops n ks listed = true →
      wpQuiet P ops C (fun a' => anyH P md ops C n L g (listAll ks listed) a' w) os a → anyH P md ops C n L (ks.length + g) listed a w
  | [], os, listed, a, he, _, _, _, h => by
    have : os = [] := by simpa using he
    subst this
    rw [List.length_nil, Nat.zero_add]; exact h
  | k :: ks, os, listed, a, he, inv, hd, hB, h => by
    match os, he with
    | o :: os, he =>
      simp only [List.map_cons, List.cons.injEq] at he
      obtain ⟨ho, he⟩ := he
      simp only [mixH, ← ho, Bool.and_eq_true, decide_eq_true_eq] at hB
      obtain ⟨⟨⟨⟨hr, hf⟩, hk⟩, hv⟩, hB'⟩ := hB
      have hr' : k ∈ Region.ready md ops listed := by simpa using hr
      rw [List.length_cons, show ks.length + 1 + g = (ks.length + g) + 1 by omega]
      simp only [wpQuiet] at h
      cases hwt : Region.wanted o (yielded ops a.tmps)
      · simp only [hwt] at h
        exact anyH_first ho.symm hsel hs hc hn hk hdone _ listed a w hw inv hd (Region.free_spec ho.symm hf) hr' (.inr ⟨hwt, rfl⟩)
          (anyH_lex hsel hs hc hn hdone g w hw ks os _ _ he (inv.set hr' hk) (fun k hk => getD_set_true (hd k hk)) hB' h)
      · simp only [hwt, if_true] at h
        obtain ⟨v, hq, hnext⟩ := h
        exact anyH_first ho.symm hsel hs hc hn hk hdone _ listed a w hw inv hd (Region.free_spec ho.symm hf) hr' (.inl ⟨hwt, valH_of_quiet hv hq⟩)
          (anyH_lex hsel hs hc hn hdone g w hw ks os _ _ he (inv.set hr' hk) (fun k hk => getD_set_true (hd k hk)) hB' hnext)
theorem anyH_moves {done : Array Bool} (hsel : Region.noSelect ops = true) (hs : waitB md ops n done = true) (hc : Region.chainB md ops n = true) (hn : n < ops.size) (hdone : ∀ listed a w, L listed a w → ∀ j ∈ Region.ready md ops listed, n ≤ j) (g : Nat) (w : World) (hw : C w) :
    ∀ (ks : List Nat) (os : List Oper) (listed : Array Bool) (a : Act), os.map some = ks.map (ops[·]?) → HeadInv md ops n listed → (∀ k, done.getD k false = true → listed.getD k false = true) → mixV md ops n ks listed = true →
      anyH P md ops C n L g (listAll ks listed) (movD os a) w → anyH P md ops C n L (ks.length + g) listed a w
  | [], os, listed, a, he, _, _, _, h => by
    have : os = [] := by simpa using he
    subst this
    rw [List.length_nil, Nat.zero_add]; exact h
  | k :: ks, os, listed, a, he, inv, hd, hB, h => by
    match os, he with
    | o :: os, he =>
      simp only [List.map_cons, List.cons.injEq] at he
      obtain ⟨ho, he⟩ := he
      simp only [mixV, ← ho, Bool.and_eq_true, decide_eq_true_eq, Option.isNone_iff_eq_none] at hB
      obtain ⟨⟨⟨⟨hr, hf⟩, hk⟩, hv, hg⟩, hB'⟩ := hB
      have hr' : k ∈ Region.ready md ops listed := by simpa using hr
      rw [List.length_cons, show ks.length + 1 + g = (ks.length + g) + 1 by omega]
      obtain ⟨x, hx⟩ := Option.isSome_iff_exists.1 hv
      have hrun : ∀ w, (execOp a.eval o).run P w = .ok (.value (a.eval x)) w := fun w => by
        unfold mvOf at hx
        unfold execOp
        split at hx <;> rename_i heq <;> first
          | (cases hx; rw [heq]; rfl)
          | cases hx
      have h' : anyH P md ops C n L g (listAll ks (listed.setIfInBounds k true)) (movD os (a.put o.dst (a.eval x))) w := by
        have := h
        simp only [movD, hx] at this
        exact this
      exact anyH_first ho.symm hsel hs hc hn hk hdone _ listed a w hw inv hd (Region.free_spec ho.symm hf) hr' (.inl ⟨wanted_none hg _, fun w _ => hrun w⟩)
        (anyH_moves hsel hs hc hn hdone g w hw ks os _ _ he (inv.set hr' hk) (fun k hk => getD_set_true (hd k hk)) hB' h')
theorem mixH_ops {l : List Oper} {n : Nat} : ∀ (ks : List Nat) (listed : Array Bool), mixH md l.toArray n ks listed = true → (ks.filterMap fun k => l[k]?).map some = ks.map (l.toArray[·]?)
  | [], _, _ => rfl
  | k :: ks, listed, h => by
    simp only [mixH, Bool.and_eq_true] at h
    obtain ⟨⟨_, hv⟩, h'⟩ := h
    have ih := mixH_ops ks _ h'
    cases ho : l[k]? with
    | none => simp [ho] at hv
    | some o =>
      rw [List.filterMap_cons]
      simp only [ho, List.map_cons, ih]
      simp [ho]
theorem mixV_ops {l : List Oper} {n : Nat} : ∀ (ks : List Nat) (listed : Array Bool), mixV md l.toArray n ks listed = true → (ks.filterMap fun k => l[k]?).map some = ks.map (l.toArray[·]?)
  | [], _, _ => rfl
  | k :: ks, listed, h => by
    simp only [mixV, Bool.and_eq_true] at h
    obtain ⟨⟨_, hv⟩, h'⟩ := h
    have ih := mixV_ops ks _ h'
    cases ho : l[k]? with
    | none => simp [ho] at hv
    | some o =>
      rw [List.filterMap_cons]
      simp only [ho, List.map_cons, ih]
      simp [ho]
def doneV (l : List Oper) (ks1 : List Nat) : Array Bool := listAll ks1 (Array.replicate l.length false)
theorem oneH {f : Nat} {listed : Array Bool} {i : Nat} {oc : Oper} {a : Act} {w : World} (u : Value) (w' : World)
    (hc : ops[i]? = some oc ∧ i < n) (r0 : Region.ready md ops listed = [i]) (hw : Region.wanted oc (yielded ops a.tmps) = true)
    (run : (execOp a.eval oc).run P w = .ok (.value u) w') (hC : C w') (h : anyH P md ops C n L f (listed.setIfInBounds i true) (a.put oc.dst u) w') : anyH P md ops C n L (f + 1) listed a w := by
  refine ⟨by rw [r0]; simp, fun j hj => ?_⟩
  rw [r0] at hj
  obtain rfl := List.mem_singleton.1 hj
  exact ⟨hc.2, oc, hc.1, .inl ⟨hw, u, w', run, hC, h⟩⟩
theorem storeH {f : Nat} {listed : Array Bool} {i : Nat} {oc : Oper} {a : Act} {w : World} (w' : World)
    (hc : ops[i]? = some oc ∧ i < n) (r0 : Region.ready md ops listed = [i]) (hw : Region.wanted oc (yielded ops a.tmps) = true)
    (run : (execOp a.eval oc).run P w = .ok .skip w') (hC : C w') (h : anyH P md ops C n L f (listed.setIfInBounds i true) (a.put oc.dst undef) w') : anyH P md ops C n L (f + 1) listed a w := by
  refine ⟨by rw [r0]; simp, fun j hj => ?_⟩
  rw [r0] at hj
  obtain rfl := List.mem_singleton.1 hj
  exact ⟨hc.2, oc, hc.1, .inr (.inr (.inr ⟨hw, w', run, hC, h⟩))⟩
end
end Go.Proofs.YtaejlcanccfmmaaGreatDoor

namespace Go.Proofs.YtaejlcanccfmmaaGreatDoor
open Go.Sort
section
variable {P : Program}
def invB (ops : Array Oper) (n : Nat) (listed : Array Bool) : Bool :=
  listed.size == ops.size &&
  (List.range ops.size).all (fun j => !listed.getD j false || (match ops[j]? with | some o => o.after.all (fun e => !Region.binds .any e || listed.getD e.on false) | none => true)) &&
  (List.range ops.size).all (fun t => decide (t < n) || !listed.getD t true)
theorem inv_of {ops : Array Oper} {n : Nat} {listed : Array Bool} (h : invB ops n listed = true) : HeadInv .any ops n listed := by
  simp only [invB, Bool.and_eq_true, beq_iff_eq, List.all_eq_true, List.mem_range] at h
  obtain ⟨⟨h1, h2⟩, h3⟩ := h
  refine ⟨h1, fun j oj hj hl e he hb => ?_, fun t ht hts => ?_⟩
  · have hjs : j < ops.size := (Array.getElem?_eq_some_iff.1 hj).1
    have h4 := h2 j hjs
    rw [hl, hj] at h4
    simp only [Bool.not_true, Bool.false_or] at h4
    have h5 := (Array.all_eq_true'.1 h4) e he
    rw [hb] at h5
    simpa using h5
  · have h4 := h3 t hts
    simp only [Bool.or_eq_true, decide_eq_true_eq, Bool.not_eq_true'] at h4
    rcases h4 with h4 | h4
    · omega
    · exact h4
def takeB (l : List Oper) (n : Nat) (listed : Array Bool) (i : Nat) : Bool :=
  Region.noSelect l.toArray && decide (n < l.length) && decide (i < n) && waitB .any l.toArray n (Array.replicate l.length false) && Region.chainB .any l.toArray n && (Region.ready .any l.toArray listed).contains i && Region.free .any l.toArray listed i && invB l.toArray n listed
def movesB (l : List Oper) (n : Nat) (ks : List Nat) : Bool :=
  Region.noSelect l.toArray && decide (n < l.length) && decide (ks.length ≤ n) && waitB .any l.toArray n (Array.replicate l.length false) && Region.chainB .any l.toArray n && mixV .any l.toArray n ks (Array.replicate l.length false)
variable {ops : Array Oper} {C : World → Prop} {n : Nat} {L : Array Bool → Act → World → Prop}
theorem twoH {f : Nat} {listed : Array Bool} {a : Act} {w : World} (i j : Nat) (r0 : Region.ready .any ops listed = [i, j]) (hin : i < n ∧ j < n)
    (hi : stepH P ops i (fun a' w' => C w' ∧ anyH P .any ops C n L f (listed.setIfInBounds i true) a' w') a w) (hj : stepH P ops j (fun a' w' => C w' ∧ anyH P .any ops C n L f (listed.setIfInBounds j true) a' w') a w) : anyH P .any ops C n L (f + 1) listed a w := by
  refine ⟨by rw [r0]; simp, fun k hk => ?_⟩
  rw [r0] at hk
  rcases List.mem_cons.1 hk with rfl | hk
  · exact ⟨hin.1, hi⟩
  · obtain rfl := List.mem_singleton.1 hk
    exact ⟨hin.2, hj⟩
theorem stepH_value {i : Nat} {K : Act → World → Prop} {oc : Oper} {a : Act} {w : World} (u : Value) (w' : World) (hc : ops[i]? = some oc) (hw : Region.wanted oc (yielded ops a.tmps) = true) (run : (execOp a.eval oc).run P w = .ok (.value u) w') (hk : K (a.put oc.dst u) w') : stepH P ops i K a w :=
  ⟨oc, hc, .inl ⟨hw, u, w', run, hk⟩⟩
theorem stepH_call {i : Nat} {K : Act → World → Prop} {oc : Oper} {a : Act} {w : World} {fn : FuncId} {args : Array Value} (hc : ops[i]? = some oc) (hw : Region.wanted oc (yielded ops a.tmps) = true) (run : (execOp a.eval oc).run P w = .ok (.enter fn args) w) (con : Calls P fn args w fun e w' => ∃ v, e = .returned v ∧ K (a.put oc.dst v) w') : stepH P ops i K a w :=
  ⟨oc, hc, .inr (.inl ⟨hw, fn, args, run, con⟩)⟩
theorem callH {f : Nat} {listed : Array Bool} {i : Nat} {oc : Oper} {a : Act} {w : World} {fn : FuncId} {args : Array Value} (hc : ops[i]? = some oc ∧ i < n) (r0 : Region.ready .any ops listed = [i]) (hw : Region.wanted oc (yielded ops a.tmps) = true)
    (run : (execOp a.eval oc).run P w = .ok (.enter fn args) w) (con : Calls P fn args w fun e w' => ∃ v, e = .returned v ∧ C w' ∧ anyH P .any ops C n L f (listed.setIfInBounds i true) (a.put oc.dst v) w') : anyH P .any ops C n L (f + 1) listed a w := by
  refine ⟨by rw [r0]; simp, fun j hj => ?_⟩
  rw [r0] at hj
  obtain rfl := List.mem_singleton.1 hj
  exact ⟨hc.2, stepH_call hc.1 hw run con⟩
end
end Go.Proofs.YtaejlcanccfmmaaGreatDoor

namespace Go.Proofs.YtaejlcanccfmmaaGreatDoor
open Go.RowKit Go.Sort
section
variable {P : Program} {md : Region.Mode} {ops : Array Oper} {C : World → Prop} {n : Nat} {L : Array Bool → Act → World → Prop}
def bx (d : Nat) (o : Option Nat) (a : Act) : Act := match o with
  | none => a
  | some p => a.put (some d) (.pointer (some ⟨p, 0, none⟩))
theorem bx_put {d e : Nat} (h : e ≠ d) (o : Option Nat) (a : Act) (v : Value) : (bx d o a).put (some e) v = bx d o (a.put (some e) v) := by
  cases o with
  | none => rfl
  | some p => exact Act.put_comm a (x := some d) (y := some e) _ v (fun x hx => by cases hx; simpa using h)
def lexB (l : List Oper) (n : Nat) (ks : List Nat) (listed : Array Bool) : Bool :=
  Region.noSelect l.toArray && decide (n < l.length) && Region.sinkB .any l.toArray n && Region.chainB .any l.toArray n && invB l.toArray n listed && mixB .any l.toArray n ks listed
end
end Go.Proofs.YtaejlcanccfmmaaGreatDoor
