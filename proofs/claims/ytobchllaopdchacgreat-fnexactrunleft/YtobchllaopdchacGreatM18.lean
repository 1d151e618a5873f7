/-
  Several texts in one.
-/
import Derived.Test.YtobchllaopdchacGreatM2
import Derived.Test.YtobchllaopdchacGreatM10
import Derived.Test.YtobchllaopdchacGreatM9
import Derived.Test.YtobchllaopdchacGreatM17
namespace Go.Proofs.YtobchllaopdchacGreat
open Go.Sort
section
variable {P : Program} {md : Region.Mode} {ops : Array Oper} {C : World → Prop} {n : Nat} {L : Array Bool → Act → World → Prop}
def valG (o : Oper) : Bool := match o.op with
  | .pick _ _ _ => true
  | _ => valB o
theorem valG_only {o : Oper} (h : valG o = true) (ρ : Operand → Value) (w : World) (f : FuncId) (args : Array Value) (w' : World) : (execOp ρ o).run P w ≠ .ok (.enter f args) w' := by
  unfold valG at h
  split at h
  · rename_i heq
    unfold execOp
    rw [heq]
    show Sem.run P (do let b ← asBool _; pure (Next.value (if b = true then _ else _))) w ≠ _
    simp only [Sem.run_bind, Sem.run_pure]
    generalize Sem.run P (asBool _) w = r
    cases r <;> simp [Result.andThen]
  · exact val_only h ρ w f args w'
theorem valG_skip {o : Oper} (h : valG o = true) (ρ : Operand → Value) (w w' : World) : (execOp ρ o).run P w ≠ .ok .skip w' := by
  unfold valG at h
  split at h
  · rename_i heq
    unfold execOp
    rw [heq]
    show Sem.run P (do let b ← asBool _; pure (Next.value (if b = true then _ else _))) w ≠ _
    simp only [Sem.run_bind, Sem.run_pure]
    generalize Sem.run P (asBool _) w = r
    cases r <;> simp [Result.andThen]
  · exact val_skip h ρ w w'
theorem valG_of_quiet {o : Oper} (h : valG o = true) {a : Act} {v : Value} (hq : ∀ w, C w → o.quietAt P a C w v) (hs : ∀ w, C w → ∀ w', (execOp a.eval o).run P w ≠ .ok .skip w') : ∀ w, C w → (execOp a.eval o).run P w = .ok (.value v) w := by
  intro w hw
  have h1 := hq w hw
  unfold Oper.quietAt at h1
  have h2 := valG_only (P := P) h a.eval w
  have h3 := hs w hw
  generalize (execOp a.eval o).run P w = r at *
  cases r with
  | halt x w' => simp only [Oper.quietUpon] at h1
  | ok m w' =>
    cases m with
    | value u => simp only [Oper.quietUpon] at h1; rw [h1.1, h1.2]
    | skip => exact absurd rfl (h3 w')
    | enter f args => exact absurd rfl (h2 f args w')
    | _ => simp only [Oper.quietUpon] at h1
def stepG (P : Program) (ops : Array Oper) (i : Nat) (K : Act → World → Prop) (a : Act) (w : World) : Prop :=
  ∃ o, ops[i]? = some o ∧
    ((Region.wanted o (yielded ops a.tmps) = true ∧ ∃ u w', (execOp a.eval o).run P w = .ok (.value u) w' ∧ K (a.put o.dst u) w') ∨
     (Region.wanted o (yielded ops a.tmps) = true ∧ ∃ f args, (execOp a.eval o).run P w = .ok (.enter f args) w ∧ Calls P f args w (fun e w'' => ∃ u, e = .returned u ∧ K (a.put o.dst u) w'')) ∨
     (Region.wanted o (yielded ops a.tmps) = false ∧ K (a.put o.dst undef) w))
def anyG (P : Program) (md : Region.Mode) (ops : Array Oper) (C : World → Prop) (n : Nat) (L : Array Bool → Act → World → Prop) : Nat → Array Bool → Act → World → Prop
  | 0, listed, a, w => L listed a w
  | f + 1, listed, a, w => Region.ready md ops listed ≠ [] ∧ ∀ i ∈ Region.ready md ops listed, i < n ∧ stepG P ops i (fun a' w' => C w' ∧ anyG P md ops C n L f (listed.setIfInBounds i true) a' w') a w
theorem any_of_G {Q : Exit → Act → World → Prop} {g : Nat} (hL : ∀ listed a w, L listed a w → wpAny P md ops Q g listed a w) :
    ∀ (f : Nat) (listed : Array Bool) (a : Act) (w : World), anyG P md ops C n L f listed a w → wpAny P md ops Q (f + g) listed a w
  | 0, listed, a, w, h => by rw [Nat.zero_add]; exact hL _ _ _ h
  | f + 1, listed, a, w, h => by
    rw [show f + 1 + g = (f + g) + 1 by omega]
    refine ⟨fun h0 => absurd h0 h.1, fun i hi => ?_⟩
    obtain ⟨o, ho, h'⟩ := (h.2 i hi).2
    rcases h' with ⟨hg, u, w', hr, _, hk⟩ | ⟨hg, fn, args, hr, hk⟩ | ⟨hg, _, hk⟩
    · unfold wpOp
      simp only [ho, hg, if_true]
      refine .inl ?_
      unfold Oper.wp
      rw [hr]
      exact any_of_G hL f _ _ _ hk
    · unfold wpOp
      simp only [ho, hg, if_true]
      refine .inl ?_
      unfold Oper.wp
      rw [hr]
      exact hk.mono fun e w'' ⟨u, he, _, hk'⟩ => by subst he; exact any_of_G hL f _ _ _ hk'
    · unfold wpOp
      simp only [ho, hg]
      exact any_of_G hL f _ _ _ hk
theorem anyG_first {i : Nat} {oi : Oper} {v : Value} (hi : ops[i]? = some oi) (hsel : Region.noSelect ops = true) (hs : Region.sinkB md ops n = true) (hc : Region.chainB md ops n = true) (hn : n < ops.size) (hin : i < n)
    (hdone : ∀ listed a w, L listed a w → ∀ j ∈ Region.ready md ops listed, n ≤ j) :
    ∀ (f : Nat) (listed : Array Bool) (a : Act) (w : World), C w → HeadInv md ops n listed →
      (∀ j oj, ops[j]? = some oj → j ≠ i → listed.getD j true = false → (∀ e ∈ oj.after, Region.binds md e = true → e.on ≠ i) → oi.apart ops oj = true) →
      i ∈ Region.ready md ops listed → ((Region.wanted oi (yielded ops a.tmps) = true ∧ ∀ w, C w → (execOp a.eval oi).run P w = .ok (.value v) w) ∨ (Region.wanted oi (yielded ops a.tmps) = false ∧ v = undef)) →
      anyG P md ops C n L f (listed.setIfInBounds i true) (a.put oi.dst v) w → anyG P md ops C n L (f + 1) listed a w := by
  intro f
  have self : ∀ (listed : Array Bool) (a : Act) (w : World) (f : Nat), C w → ((Region.wanted oi (yielded ops a.tmps) = true ∧ ∀ w, C w → (execOp a.eval oi).run P w = .ok (.value v) w) ∨ (Region.wanted oi (yielded ops a.tmps) = false ∧ v = undef)) →
      anyG P md ops C n L f (listed.setIfInBounds i true) (a.put oi.dst v) w → stepG P ops i (fun a' w' => C w' ∧ anyG P md ops C n L f (listed.setIfInBounds i true) a' w') a w := by
    intro listed a w f hw hy H
    rcases hy with ⟨hg, hy⟩ | ⟨hg, hy⟩
    · exact ⟨oi, hi, .inl ⟨hg, v, w, hy w hw, hw, H⟩⟩
    · rw [hy] at H
      exact ⟨oi, hi, .inr (.inr ⟨hg, hw, H⟩)⟩
  induction f with
  | zero =>
    intro listed a w hw inv _ hr hy H
    refine ⟨(fun h => by rw [h] at hr; cases hr), fun j hj => ?_⟩
    by_cases hji : j = i
    · subst hji; exact ⟨hin, self _ _ _ _ hw hy H⟩
    · have h1 := hdone _ _ _ H j (ready_mono hj hji)
      exact absurd hj (tail_waits hs hc hn inv _ i rfl hin (mem_ready.1 hr).1 j h1)
  | succ f ih =>
    intro listed a w hw inv hfree hr hy H
    refine ⟨(fun h => by rw [h] at hr; cases hr), fun j hj => ?_⟩
    by_cases hji : j = i
    · subst hji; exact ⟨hin, self _ _ _ _ hw hy H⟩
    · obtain ⟨hjn, hstep⟩ := H.2 j (ready_mono hj hji)
      obtain ⟨hjun, oj, hoj, hall⟩ := mem_ready.1 hj
      have hiun := (mem_ready.1 hr).1
      have hnot : ∀ e ∈ oj.after, Region.binds md e = true → e.on ≠ i := fun e he hb heq => by
        have h1 := hall e he hb
        rw [heq, getD_both hiun] at h1
        cases h1
      obtain ⟨h1, h2, h3⟩ := Oper.apart_spec (hfree j oj hoj hji hjun hnot)
      have hex : execOp (a.put oi.dst v).eval oj = execOp a.eval oj := execOp_put (ops := ops) oj (fun cs b => Region.noSelect_spec hsel j oj cs b hoj) a oi.dst v h1
      have hwj : Region.wanted oj (yielded ops (a.put oi.dst v).tmps) = Region.wanted oj (yielded ops a.tmps) := wanted_put oj a oi.dst v h1
      have next : ∀ u w', C w' → anyG P md ops C n L f ((listed.setIfInBounds i true).setIfInBounds j true) ((a.put oi.dst v).put oj.dst u) w' → anyG P md ops C n L (f + 1) (listed.setIfInBounds j true) (a.put oj.dst u) w' := by
        intro u w' hC' hrest
        refine ih (listed.setIfInBounds j true) (a.put oj.dst u) w' hC' (inv.set hj hjn) ?_ (ready_mono hr (Ne.symm hji)) ?_ ?_
        · intro k ok hk hki hun hno
          refine hfree k ok hk hki ?_ hno
          by_cases hjk : j = k
          · subst hjk; exact hjun
          · rw [getD_set_ne true hjk] at hun; exact hun
        · rw [wanted_put oi a oj.dst u h3, execOp_put (ops := ops) oi (fun cs b => Region.noSelect_spec hsel i oi cs b hi) a oj.dst u h3]
          exact hy
        · rw [Array.setIfInBounds_comm _ _ hji, ← Act.put_comm a v u h2]
          exact hrest
      refine ⟨hjn, ?_⟩
      obtain ⟨oj', hoj', hstep⟩ := hstep
      obtain rfl := Option.some.inj (hoj.symm.trans hoj')
      refine ⟨oj, hoj, ?_⟩
      rw [hwj, hex] at hstep
      rcases hstep with ⟨hgj, u, w', hrun, hC', hrest⟩ | ⟨hgj, fn, args, hrun, hrest⟩ | ⟨hgj, hC', hrest⟩
      · exact .inl ⟨hgj, u, w', hrun, hC', next u w' hC' hrest⟩
      · exact .inr (.inl ⟨hgj, fn, args, hrun, hrest.mono fun e w'' ⟨u, he, hC', hk⟩ => ⟨u, he, hC', next u w'' hC' hk⟩⟩)
      · exact .inr (.inr ⟨hgj, hC', next undef w hC' hrest⟩)
def mixG (md : Region.Mode) (ops : Array Oper) (n : Nat) : List Nat → Array Bool → Bool
  | [], _ => true
  | k :: ks, listed => (Region.ready md ops listed).contains k && Region.free md ops listed k && decide (k < n) && (match ops[k]? with | some o => valG o | none => false) && mixG md ops n ks (listed.setIfInBounds k true)
theorem anyG_lex (hsel : Region.noSelect ops = true) (hs : Region.sinkB md ops n = true) (hc : Region.chainB md ops n = true) (hn : n < ops.size) (hdone : ∀ listed a w, L listed a w → ∀ j ∈ Region.ready md ops listed, n ≤ j) (g : Nat) (w : World) (hw : C w) :
    ∀ (ks : List Nat) (os : List Oper) (listed : Array Bool) (a : Act), os.map some = ks.map (ops[·]?) → HeadInv md ops n listed → mixG md ops n ks listed = true →
      wpQuiet P ops C (fun a' => anyG P md ops C n L g (listAll ks listed) a' w) os a → anyG P md ops C n L (ks.length + g) listed a w
  | [], os, listed, a, he, _, _, h => by
    have : os = [] := by simpa using he
    subst this
    rw [List.length_nil, Nat.zero_add]; exact h
  | k :: ks, os, listed, a, he, inv, hB, h => by
    match os, he with
    | o :: os, he =>
      simp only [List.map_cons, List.cons.injEq] at he
      obtain ⟨ho, he⟩ := he
      simp only [mixG, ← ho, Bool.and_eq_true, decide_eq_true_eq] at hB
      obtain ⟨⟨⟨⟨hr, hf⟩, hk⟩, hv⟩, hB'⟩ := hB
      have hr' : k ∈ Region.ready md ops listed := by simpa using hr
      rw [List.length_cons, show ks.length + 1 + g = (ks.length + g) + 1 by omega]
      simp only [wpQuiet] at h
      cases hwt : Region.wanted o (yielded ops a.tmps)
      · simp only [hwt] at h
        exact anyG_first ho.symm hsel hs hc hn hk hdone _ listed a w hw inv (Region.free_spec ho.symm hf) hr' (.inr ⟨hwt, rfl⟩)
          (anyG_lex hsel hs hc hn hdone g w hw ks os _ _ he (inv.set hr' hk) hB' h)
      · simp only [hwt, if_true] at h
        obtain ⟨v, hq, hnext⟩ := h
        exact anyG_first ho.symm hsel hs hc hn hk hdone _ listed a w hw inv (Region.free_spec ho.symm hf) hr' (.inl ⟨hwt, valG_of_quiet hv hq (fun w _ w' => valG_skip hv a.eval w w')⟩)
          (anyG_lex hsel hs hc hn hdone g w hw ks os _ _ he (inv.set hr' hk) hB' hnext)
def mixTailG (l : List Oper) (n : Nat) (ks : List Nat) : Bool :=
  Region.noSelect l.toArray && decide (n < l.length) && decide (ks.length ≤ n) && Region.sinkB .any l.toArray n && Region.chainB .any l.toArray n && mixG .any l.toArray n ks (Array.replicate l.length false)
theorem mixG_ops {l : List Oper} {n : Nat} : ∀ (ks : List Nat) (listed : Array Bool), mixG md l.toArray n ks listed = true → (ks.filterMap fun k => l[k]?).map some = ks.map (l.toArray[·]?)
  | [], _, _ => rfl
  | k :: ks, listed, h => by
    simp only [mixG, Bool.and_eq_true] at h
    obtain ⟨⟨_, hv⟩, h'⟩ := h
    have ih := mixG_ops ks _ h'
    cases ho : l[k]? with
    | none => simp [ho] at hv
    | some o =>
      rw [List.filterMap_cons]
      simp only [ho, List.map_cons, ih]
      simp [ho]
theorem wp_region_guarded {id : Nat} {Q : Exit → Act → World → Prop} {a : Act} {w : World} {l : List Oper} (n : Nat) (ks : List Nat) (hm : P.follows .mixedOrders = true) (hB : mixTailG l n ks = true)
    (h : wpQuiet P l.toArray (fun w' => ∃ p : Regrown, w' = grow (redrawn w p.d) p.os) (fun a' => anyG P .any l.toArray (fun w' => ∃ p : Regrown, w' = grow (redrawn w p.d) p.os) n (tailC P Q l n) (n - ks.length) (listAll ks (Array.replicate l.length false)) a' w.drew) (ks.filterMap fun k => l[k]?) a) :
    (Code.region id l.toArray true).wp P Q a w := by
  have hos := hB
  simp only [mixTailG, Bool.and_eq_true] at hos
  have hos := mixG_ops ks _ hos.2
  simp only [mixTailG, Bool.and_eq_true, decide_eq_true_eq] at hB
  obtain ⟨⟨⟨⟨⟨hsel, hn⟩, hkn⟩, hs⟩, hc⟩, hmix⟩ := hB
  have hn' : n < l.toArray.size := by simpa using hn
  have hdl : (l.drop n).length = l.length - n := by simp
  have inv0 : HeadInv .any l.toArray n (Array.replicate l.length false) :=
    ⟨by simp, fun j oj _ hl => (by rw [getD_replicate_false] at hl; cases hl), fun t _ ht => getD_in (by simpa using ht) (getD_replicate_false _ _)⟩
  have H := anyG_lex (P := P) (md := .any) (L := tailC P Q l n) hsel hs hc hn' (fun listed a w hL => seqB_ready hL.1) (n - ks.length) w.drew ⟨⟨w.drawn + 1, #[]⟩, by rw [grow_empty]; rfl⟩ ks _ _ a hos inv0 hmix h
  have G := any_of_G (Q := Q) (g := l.length - n) (fun listed a' w' hL => by
    have := wpAny_of_seq (P := P) (md := .any) (ops := l.toArray) (Q' := Q) (l.drop n) n listed a' w' (fun j => by simp [List.getElem?_drop]) (by rw [hdl]; exact hL.1) hL.2
    rwa [hdl] at this) _ _ _ _ H
  rw [show ks.length + (n - ks.length) + (l.length - n) = l.toArray.size by simp; omega] at G
  refine wp_region_any hm ?_
  simpa using G
theorem callG {f : Nat} {listed : Array Bool} {i dc : Nat} {oc : Oper} {a : Act} {w : World} {fn : FuncId} {args : Array Value}
    (hc : ops[i]? = some oc ∧ oc.dst = some dc ∧ i < n) (r0 : Region.ready md ops listed = [i]) (hw : Region.wanted oc (yielded ops a.tmps) = true)
    (run : (execOp a.eval oc).run P w = .ok (.enter fn args) w) (con : Calls P fn args w fun e w' => ∃ v, e = .returned v ∧ C w' ∧ anyG P md ops C n L f (listed.setIfInBounds i true) (a.put (some dc) v) w') :
    anyG P md ops C n L (f + 1) listed a w := by
  obtain ⟨hc1, hc3, hc4⟩ := hc
  refine ⟨by rw [r0]; simp, fun j hj => ?_⟩
  rw [r0] at hj
  obtain rfl := List.mem_singleton.1 hj
  refine ⟨hc4, oc, hc1, .inr (.inl ⟨hw, fn, args, run, con.mono fun e w' ⟨v, he, hC, hk⟩ => ⟨v, he, hC, ?_⟩⟩)⟩
  rw [hc3]; exact hk
end
end Go.Proofs.YtobchllaopdchacGreat

namespace Go.Proofs.YtobchllaopdchacGreat
open Go.Sort
section
variable {P : Program} {C : World → Prop} {n : Nat}
theorem callGX {md : Region.Mode} {ops : Array Oper} {L : Array Bool → Act → World → Prop} {f : Nat} {listed : Array Bool} {i dc : Nat} {oc : Oper} {a : Act} {w : World}
    (hc : ops[i]? = some oc ∧ oc.dst = some dc ∧ i < n) (r0 : Region.ready md ops listed = [i]) (hw : Region.wanted oc (yielded ops a.tmps) = false) (hC : C w)
    (h : anyG P md ops C n L f (listed.setIfInBounds i true) (a.put (some dc) undef) w) : anyG P md ops C n L (f + 1) listed a w := by
  obtain ⟨hc1, hc3, hc4⟩ := hc
  refine ⟨by rw [r0]; simp, fun j hj => ?_⟩
  rw [r0] at hj
  obtain rfl := List.mem_singleton.1 hj
  exact ⟨hc4, oc, hc1, .inr (.inr ⟨hw, hC, by rw [hc3]; exact h⟩)⟩
theorem oneGX {md : Region.Mode} {ops : Array Oper} {L : Array Bool → Act → World → Prop} {f : Nat} {listed : Array Bool} {i dc : Nat} {oc : Oper} {a : Act} {w : World} (v : Value)
    (hc : ops[i]? = some oc ∧ oc.dst = some dc ∧ i < n) (r0 : Region.ready md ops listed = [i]) (hw : Region.wanted oc (yielded ops a.tmps) = true) (run : (execOp a.eval oc).run P w = .ok (.value v) w) (hC : C w)
    (h : anyG P md ops C n L f (listed.setIfInBounds i true) (a.put (some dc) v) w) : anyG P md ops C n L (f + 1) listed a w := by
  obtain ⟨hc1, hc3, hc4⟩ := hc
  refine ⟨by rw [r0]; simp, fun j hj => ?_⟩
  rw [r0] at hj
  obtain rfl := List.mem_singleton.1 hj
  exact ⟨hc4, oc, hc1, .inl ⟨hw, v, w, run, hC, by rw [hc3]; exact h⟩⟩
def lexGB (l : List Oper) (n : Nat) (ks : List Nat) (listed : Array Bool) : Bool :=
  Region.noSelect l.toArray && decide (n < l.length) && Region.sinkB .any l.toArray n && Region.chainB .any l.toArray n && invB l.toArray n listed && mixG .any l.toArray n ks listed
theorem lexG {Q : Exit → Act → World → Prop} {l : List Oper} {listed : Array Bool} {a : Act} {w : World} (g : Nat) (ks : List Nat) (hB : lexGB l n ks listed = true) (hw : C w)
    (h : wpQuiet P l.toArray C (fun a' => anyG P .any l.toArray C n (tailC P Q l n) g (listAll ks listed) a' w) (ks.filterMap fun k => l[k]?) a) : anyG P .any l.toArray C n (tailC P Q l n) (ks.length + g) listed a w := by
  simp only [lexGB, Bool.and_eq_true, decide_eq_true_eq] at hB
  obtain ⟨⟨⟨⟨⟨hsel, hn⟩, hs⟩, hc⟩, hi⟩, hm⟩ := hB
  exact anyG_lex hsel hs hc (by simpa using hn) (fun listed a w hL => seqB_ready hL.1) g w hw ks _ listed a (mixG_ops ks _ hm) (inv_of hi) hm h
end
end Go.Proofs.YtobchllaopdchacGreat

namespace Go.Proofs.YtobchllaopdchacGreat
open Go.RowKit Go.Sort
theorem sl_max {S : Nat → Prop} {w : World} {sl : List DRunSlot} {v : Value} (h : AtL S w sl v) : ∀ s ∈ sl, s.2.size ≤ maxLen := fun s hs => by
  obtain ⟨i, hi, rfl⟩ := List.getElem_of_mem hs
  obtain ⟨_, _, _, _, hc⟩ := h
  obtain ⟨_, _, _, _, _, _, hat⟩ := hc i hi
  exact (at_DRunSlot.1 hat).2.2
theorem th_max {sl : List DRunSlot} (h : ∀ s ∈ sl, s.2.size ≤ maxLen) {l : List ByteArray} {y : ByteArray} (hy : y ∈ thL sl l) : y.size ≤ maxLen := by
  rcases both_mem _ _ _ hy with h1 | h1
  · cases h1
  · obtain ⟨z, _, rfl⟩ := List.mem_map.1 h1
    exact thT_size h z
theorem tg_max {nm : ByteArray} {r : List DRecPhase} {sl : List DRunSlot} {at_ : ByteArray} {si st : Int} {x y : ByteArray} (h : ∀ s ∈ sl, s.2.size ≤ maxLen) (hy : y ∈ tgL (nm, r, sl, at_, si, st) x) : y.size ≤ maxLen := by
  unfold tgL at hy
  split at hy
  · exact th_max h hy
  · cases hy
theorem ow_max {nm : ByteArray} {r : List DRecPhase} {sl : List DRunSlot} {at_ : ByteArray} {si st : Int} {y : ByteArray} (h : ∀ s ∈ sl, s.2.size ≤ maxLen) (hy : y ∈ owL (nm, r, sl, at_, si, st)) : y.size ≤ maxLen := by
  unfold owL at hy
  split at hy
  · exact th_max h hy
  · cases hy
structure ShaR (Bs : List DShareBatch) (b : DRunBatch) : Prop where
  at_ : ¬ atZI Bs b.1 < 0
  needs : ∀ (a : Nat) (h : a < Bs.length), atZI Bs b.1 = (a : Int) → Bs[a].2.2 = tgL b b.2.2.2.1
  has : ∀ (a : Nat) (h : a < Bs.length), atZI Bs b.1 = (a : Int) → 0 ≤ b.2.2.2.2.1 → allB (owL b) Bs[a].2.1 = true
structure ShaP (Bs : List DShareBatch) (Ba : List DRunBatch) : Prop where
  len : Bs.length = Ba.length
  row : ∀ i (h : i < Ba.length), ShaR Bs Ba[i]
noncomputable def shaB (Bs : List DShareBatch) (Ba : List DRunBatch) : Bool := @decide (ShaP Bs Ba) (Classical.propDecidable _)
theorem sha_yes {Bs : List DShareBatch} {Ba : List DRunBatch} (h : ShaP Bs Ba) : shaB Bs Ba = true := by unfold shaB; exact @decide_eq_true _ (Classical.propDecidable _) h
theorem sha_no {Bs : List DShareBatch} {Ba : List DRunBatch} (h : ¬ ShaP Bs Ba) : shaB Bs Ba = false := by unfold shaB; exact @decide_eq_false _ (Classical.propDecidable _) h
theorem sha_iff {Bs : List DShareBatch} {Ba : List DRunBatch} : shaB Bs Ba = true ↔ ShaP Bs Ba := by unfold shaB; exact @decide_eq_true_iff _ (Classical.propDecidable _)
set_option maxRecDepth 100000 in
set_option maxHeartbeats 16000000 in
theorem shaX_any (S : Nat → Prop) (now last : Int) (o2 o3 o4 o5 : Option Addr) (n2 k2 n3 k3 n4 k4 n5 k5 : Nat) (T : List ByteArray) (Bs : List DShareBatch) (Ba : List DRunBatch) (w : World) (hT : AtL S w T (.slice o2 n2 k2)) (hB : AtL S w Bs (.slice o3 n3 k3)) (h : AtL S w Ba (.slice o4 n4 k4)) (hS : ∀ b, S b → b < w.heap.size) :
    Calls Tryz.prog 33 #[.agg #[.int .i64 now, .int .i64 last, .slice o2 n2 k2, .slice o3 n3 k3, .slice o4 n4 k4, .slice o5 n5 k5]] w fun e w' => e = .returned (.bool (shaB Bs Ba)) ∧ Below w.heap.size w w' := by
  have en3 : Bs.length = n3 := by obtain ⟨_, _, e, _⟩ := hB; cases e; rfl
  have en4 : Ba.length = n4 := by obtain ⟨_, _, e, _⟩ := h; cases e; rfl
  have hm3 : n3 ≤ 9223372036854775807 := by obtain ⟨_, _, e, hf, _⟩ := id hB; cases e; have := hf.1; unfold maxLen at this; omega
  have hm4 : n4 ≤ 9223372036854775807 := by obtain ⟨_, _, e, hf, _⟩ := id h; cases e; have := hf.1; unfold maxLen at this; omega
  have EN : Hid (Bs.length ≤ n3 ∧ n3 ≤ Bs.length ∧ Ba.length ≤ n4 ∧ n4 ≤ Ba.length) := ⟨by omega, by omega, by omega, by omega⟩
  have H2 : Hid _ := hT.ups hS
  have H3 : Hid _ := hB.ups hS
  have H4 : Hid _ := h.ups hS
  have HS : Hid _ := lt_up hS
  obtain ⟨W, EW, BW, RW, sW⟩ := box_new w #[.int .i64 now, .int .i64 last, .slice o2 n2 k2, .slice o3 n3 k3, .slice o4 n4 k4, .slice o5 n5 k5] 38
  have BOX : Hid (∀ u, Below W.heap.size W u → u.heap[w.heap.size]? = some (.cells #[.int .i64 now, .int .i64 last, .slice o2 n2 k2, .slice o3 n3 k3, .slice o4 n4 k4, .slice o5 n5 k5] 38 (0, 0)) ∧ Below w.heap.size w u) := fun u hu => ⟨(hu.block _ (by omega)).trans RW.out, BW.out.trans (hu.mono (by omega))⟩
  clear h hT hB hS en3 en4
  have YES : Hid (ShaP Bs Ba → shaB Bs Ba = true) := sha_yes
  have NO : Hid (¬ ShaP Bs Ba → shaB Bs Ba = false) := sha_no
  have y3 := (cell_row RW.out 3 _ rfl).1
  have y4 := (cell_row RW.out 4 _ rfl).1
  go_enter Tryz.func33, Tryz.ntmps33
  go_upto_region 1 with fail
  rw [← EW.out]
  by_cases hl : n3 = n4
  case neg =>
    have d0 : ((n3 : Int) == (n4 : Int)) = false := by rw [beq_eq_false_iff_ne]; omega
    go_wp2_with fail
    go_ret
    rw [NO.out (fun h => hl (by have := h.len; have := EN.out; omega))]
    exact ⟨rfl, BW.out⟩
  subst hl
  go_wp2_with fail
  clear y3 y4
  go_loopw [3] (fun i wr => ∃ k : Nat, k ≤ n3 ∧ i = .int .i64 k ∧ Hid (∀ j (hj : j < Ba.length), j < k → ShaR Bs Ba[j]) ∧ Hid (Below W.heap.size W wr)) (fun i _ => n3 - (intOf i).toNat)
  case atStart => exact ⟨0, Nat.zero_le _, rfl, fun _ _ h => by omega, Below.refl _ _⟩
  case round =>
    obtain ⟨k, hk, rfl, hall, hbel⟩ := hrel
    have hs := hbel.out.size
    have BX := BOX.out wr hbel.out
    have BWR : Hid (Below w.heap.size w wr) := BX.2
    have y4 := (cell_row BX.1 4 _ rfl).1
    by_cases hlt : k < n3
    case neg =>
      go_wp2_with fail
      go_ret
      rw [YES.out ⟨by have := EN.out; omega, fun i hi => hall.out i hi (by have := EN.out; omega)⟩]
      exact ⟨rfl, BWR.out⟩
    have hks : k < Ba.length := by have := EN.out; omega
    obtain ⟨b, off, p1, p2, m1, j1, m2, j2, rfl, hbS, e0, e1, e2, e3, e4, e5, z0, hr, hsl⟩ := rb_at (H4.out wr BWR.out) k hks
    have HMX : Hid (∀ s ∈ Ba[k].2.2.1, s.2.size ≤ maxLen) := sl_max hsl
    obtain ⟨f, ef⟩ : ∃ f, Ba[k] = f := ⟨_, rfl⟩
    rw [ef] at e0 e3 e4 e5 z0 hr hsl HMX
    obtain ⟨nm, r, sl, at_, si, st⟩ := f
    simp only at e0 e3 e4 e5 z0 hr hsl HMX
    have EF : Hid (Ba[k] = (nm, r, sl, at_, si, st)) := ef
    have HZ : Hid (nm.size ≤ maxLen) := z0
    have HRR : Hid (AtL S wr r (.slice p1 m1 j1)) := hr
    have HSL : Hid (AtL S wr sl (.slice p2 m2 j2)) := hsl
    clear ef z0 hr hsl hbS
    obtain ⟨X, hX⟩ : ∃ X, X = wr.alloc (.cells #[.string nm, .slice p1 m1 j1, .slice p2 m2 j2, .string at_, .int .i64 si, .int .i64 st] 49) := ⟨_, rfl⟩
    have EX : Hid (X = wr.alloc (.cells #[.string nm, .slice p1 m1 j1, .slice p2 m2 j2, .string at_, .int .i64 si, .int .i64 st] 49)) := hX
    have CX : Hid (Below wr.heap.size wr X) := by rw [hX]; exact (Below.refl _ _).alloc (Nat.le_refl _) _
    have BXX : Hid (Below W.heap.size W X) := hbel.out.trans (CX.out.mono hs)
    have RX : Hid (X.heap[wr.heap.size]? = some (.cells #[.string nm, .slice p1 m1 j1, .slice p2 m2 j2, .string at_, .int .i64 si, .int .i64 st] 49 (0, 0))) := by rw [hX]; exact heap_alloc_new wr _
    have sX : wr.heap.size + 1 ≤ X.heap.size := by rw [hX]; simp
    clear hX
    have BD := BOX.out X BXX.out
    have BDX : Hid (Below w.heap.size w X) := BD.2
    have x2 := (cell_row BD.1 2 _ rfl).1
    have x3 := (cell_row BD.1 3 _ rfl).1
    have x0 := (cell_row RX.out 0 _ rfl).1
    go_upto_region 7 with fail
    rw [← EX.out]
    clear e0 e1 e2 e3 e4 e5 y4
    go_wp2_with fail
    refine (atZ_any S T Bs o2 o3 n2 k2 n3 k3 nm X (H2.out X BDX.out) (H3.out X BDX.out) (HS.out X BDX.out)).mono ?_; rintro e w1 ⟨rfl, hb1⟩
    have C1 : Hid (Below X.heap.size X w1) := hb1
    have B1 : Hid (Below W.heap.size W w1) := BXX.out.trans (hb1.mono BXX.out.size)
    clear hb1 x0 x2 x3 BD BX
    have BH := BOX.out w1 B1.out
    have BW1 : Hid (Below w.heap.size w w1) := BH.2
    have CW : Hid (Below wr.heap.size wr w1) := CX.out.trans (C1.out.mono CX.out.size)
    have RB : Hid (w1.heap[wr.heap.size]? = some (.cells #[.string nm, .slice p1 m1 j1, .slice p2 m2 j2, .string at_, .int .i64 si, .int .i64 st] 49 (0, 0))) := (C1.out.block _ (by omega)).trans RX.out
    have HR1 : Hid (∀ u, Below w1.heap.size w1 u → AtL S u r (.slice p1 m1 j1)) := fun u hu => HRR.out.same (Same.of_below (CW.out.trans (hu.mono CW.out.size)) (HS.out wr BWR.out))
    have HL1 : Hid (∀ u, Below w1.heap.size w1 u → AtL S u sl (.slice p2 m2 j2)) := fun u hu => HSL.out.same (Same.of_below (CW.out.trans (hu.mono CW.out.size)) (HS.out wr BWR.out))
    have qh3 := fun d os => cell_regrown (cell_row BH.1 3 _ rfl).1 d os
    have qb0 := fun d os => cell_regrown (cell_row RB.out 0 _ rfl).1 d os
    have qb1 := fun d os => cell_regrown (cell_row RB.out 1 _ rfl).1 d os
    have qb2 := fun d os => cell_regrown (cell_row RB.out 2 _ rfl).1 d os
    have qb3 := fun d os => cell_regrown (cell_row RB.out 3 _ rfl).1 d os
    have qb4 := fun d os => cell_regrown (cell_row RB.out 4 _ rfl).1 d os
    have qb5 := fun d os => cell_regrown (cell_row RB.out 5 _ rfl).1 d os
    clear BH
    by_cases c4 : atZI Bs nm < 0
    · have HP : Hid (¬ ShaP Bs Ba) := fun h => by
        have := (h.row k hks).at_
        rw [EF.out] at this
        exact this c4
      obtain ⟨v, hv⟩ : ∃ v : Int, v = atZI Bs nm := ⟨_, rfl⟩
      rw [← hv] at c4 ⊢
      clear hv
      go_wp2_with fail
      refine wp_region_quiet_below (by kernel_rfl) (by kernel_rfl) ?_
      repeat (first | go_big_quiet_step (fail) | quiet_step (fail))
      refine wpQuiet_nil ?_
      intro _ hw'
      obtain ⟨⟨dq, osq⟩, hw''⟩ := hw'
      subst hw''
      go_wp2_with fail
      go_ret
      rw [NO.out HP.out]
      exact ⟨rfl, BW1.out.trans ((below_regrown w1 dq osq).mono BW1.out.size)⟩
    obtain ⟨a, ha, has⟩ := at_lt c4
    obtain ⟨bb, of3, q1, s1, t1, q2, s2, t2, rfl, hbb, _, d1, d2, A1, A2, _⟩ := bat_at (H3.out w1 BW1.out) a has
    have AH : Hid (AtL S w1 Bs[a].2.1 (.slice q1 s1 t1)) := A1
    have AN : Hid (AtL S w1 Bs[a].2.2 (.slice q2 s2 t2)) := A2
    have qd1 := fun d os => cell_regrown d1 d os
    have qd2 := fun d os => cell_regrown d2 d os
    have hav : a < n3 := by have := EN.out; omega
    have S1 : Hid (∀ b, S b → b < w1.heap.size) := HS.out w1 BW1.out
    have HATZ : Hid (atZI Bs nm = (a : Int)) := ha
    rw [ha]
    clear A1 A2 d1 d2 ha c4 hbb
    have HDR : Hid (Below w1.heap.size w1 w1.drew) := (Below.refl _ _).drew
    have TL : Hid ((tgL (nm, r, sl, at_, si, st) at_).length ≤ 8192) := tg_len _ _
    have OL : Hid ((owL (nm, r, sl, at_, si, st)).length ≤ 8192) := ow_len _
    obtain ⟨G, hG⟩ : ∃ G, G = tgL (nm, r, sl, at_, si, st) at_ := ⟨_, rfl⟩
    have HG : Hid (G = tgL (nm, r, sl, at_, si, st) at_) := hG
    have GZ : Hid (∀ y ∈ G, y.size ≤ maxLen) := fun y hy => tg_max HMX.out (by rw [← hG]; exact hy)
    rw [← hG] at TL
    have CT : Hid (∀ u, Below w1.heap.size w1 u → Calls Tryz.prog 60 #[ .agg #[.string nm, .slice p1 m1 j1, .slice p2 m2 j2, .string at_, .int .i64 si, .int .i64 st], .string at_] u fun e w' => ∃ q, e = .returned q ∧ w'.ownsRow u.heap.size 9 1 q G.length (G.map .string) ∧ Below u.heap.size u w') := fun u hu => by
      rw [hG]; exact thgX_any S nm r sl at_ si st p1 p2 m1 j1 m2 j2 at_ u HZ.out (HR1.out u hu) (HL1.out u hu) (fun b hb => Nat.lt_of_lt_of_le (S1.out b hb) hu.size)
    obtain ⟨O, hO⟩ : ∃ O, O = owL (nm, r, sl, at_, si, st) := ⟨_, rfl⟩
    have HO : Hid (O = owL (nm, r, sl, at_, si, st)) := hO
    have OZ : Hid (∀ y ∈ O, y.size ≤ maxLen) := fun y hy => ow_max HMX.out (by rw [← hO]; exact hy)
    rw [← hO] at OL
    have CO : Hid (∀ u, Below w1.heap.size w1 u → Calls Tryz.prog 62 #[ .agg #[.string nm, .slice p1 m1 j1, .slice p2 m2 j2, .string at_, .int .i64 si, .int .i64 st]] u fun e w' => ∃ q, e = .returned q ∧ w'.ownsRow u.heap.size 9 1 q O.length (O.map .string) ∧ Below u.heap.size u w') := fun u hu => by
      rw [hO]; exact ownX_any S nm r sl at_ si st p1 p2 m1 j1 m2 j2 u HZ.out (HR1.out u hu) (HL1.out u hu) (fun b hb => Nat.lt_of_lt_of_le (S1.out b hb) hu.size)
    clear hG hO
    have OKR : Hid (alkB Bs[a].2.2 G = true → (0 ≤ si → allB O Bs[a].2.1 = true) → ShaR Bs Ba[k]) := fun h1 h2 => by
      have EFO := EF.out
      have HA := HATZ.out
      refine ⟨by rw [EFO]; show ¬ atZI Bs nm < 0; omega, fun a' h' e' => ?_, fun a' h' e' h0 => ?_⟩
      · rw [EFO] at e' ⊢
        obtain rfl : a' = a := by simp only at e'; omega
        rw [alk_iff.1 h1]; exact HG.out
      · rw [EFO] at e' h0 ⊢
        obtain rfl : a' = a := by simp only at e'; omega
        have := h2 h0
        rw [HO.out] at this; exact this
    have BAD1 : Hid (alkB Bs[a].2.2 G = false → ¬ ShaP Bs Ba) := fun h1 h => by
      have := (h.row k hks).needs a has (by rw [EF.out]; exact HATZ.out)
      rw [EF.out] at this
      rw [alk_yes (this.trans HG.out.symm)] at h1
      cases h1
    have BAD2 : Hid (0 ≤ si → allB O Bs[a].2.1 = false → ¬ ShaP Bs Ba) := fun h0 h1 h => by
      have := (h.row k hks).has a has (by rw [EF.out]; exact HATZ.out) (by rw [EF.out]; exact h0)
      rw [EF.out, ← HO.out, h1] at this
      cases this
    have dneg : decide ((a : Int) < 0) = false := decide_eq_false (by omega)
    go_wp2_with fail
    refine wp_region_guarded 34 [0, 1, 2, 3, 4, 5, 6, 7, 8, 9, 10, 11, 12] (by kernel_rfl) (by kernel_rfl) ?_
    simp only [List.filterMap_cons, List.filterMap_nil, List.getElem?_cons_succ, List.getElem?_cons_zero]
    repeat (first | go_big_quiet_step (fail) | quiet_step (fail))
    refine wpQuiet_nil ?_
    refine callG (md := .any) (f := 20) (i := 13) (dc := 44) (fn := 60) ⟨rfl, rfl, by decide⟩ (by kernel_rfl) ?want ?run ((CT.out w1.drew HDR.out).mono ?_)
    case want => rfl
    case run => go_simp
    rintro e w2 ⟨qt, rfl, hq, hb2⟩
    have C2 : Hid (Below w1.heap.size w1 w2) := HDR.out.trans hb2
    have AT : Hid (AtL (fun b => w1.heap.size ≤ b ∧ b < w2.heap.size) w2 G qt) := at_rowX hq GZ.out TL.out
    obtain ⟨ot, ct, eqt, _⟩ := id AT.out
    subst eqt
    refine ⟨_, rfl, regrown_of_below C2.out, ?_⟩
    clear hq hb2
    simp only [Act.put, List.setIfInBounds_toArray, List.set_cons_zero, List.set_cons_succ]
    have AN2 : Hid (AtL S w2 Bs[a].2.2 (.slice q2 s2 t2)) := AN.out.same (Same.of_below C2.out S1.out)
    have z2 := C2.out.size
    refine callG (md := .any) (f := 19) (i := 14) (dc := 45) (fn := 59) ⟨rfl, rfl, by decide⟩ (by kernel_rfl) ?want ?run ((alkX_any S _ Bs[a].2.2 G q2 ot s2 t2 _ ct w2 AN2.out AT.out (fun b hb => by have := S1.out b hb; omega) (fun b hb => hb.2)).mono ?_)
    case want => rfl
    case run => go_simp
    rintro e w3 ⟨rfl, hb3⟩
    have C3 : Hid (Below w1.heap.size w1 w3) := C2.out.trans (hb3.mono z2)
    have z3 := C3.out.size
    refine ⟨_, rfl, regrown_of_below C3.out, ?_⟩
    clear hb3
    simp only [Act.put, List.setIfInBounds_toArray, List.set_cons_zero, List.set_cons_succ]
    cases c1 : alkB Bs[a].2.2 G
    · refine oneGX (i := 15) (dc := 46) (.bool true) ⟨rfl, rfl, by decide⟩ (by kernel_rfl) rfl ?run (regrown_of_below C3.out) ?_
      case run => go_simp
      simp only [Act.put, List.setIfInBounds_toArray, List.set_cons_zero, List.set_cons_succ]
      refine lexG (g := 4) [16, 17, 18, 19, 20, 21, 22, 24, 25, 26, 27, 28, 29, 30] (by kernel_rfl) (regrown_of_below C3.out) ?_
      simp only [List.filterMap_cons, List.filterMap_nil, List.getElem?_cons_succ, List.getElem?_cons_zero]
      show wpQuiet _ _ _ _ [_, _, _, _, _, _, _, _, _, _, _, _, _, _] _
      repeat (first | go_big_quiet_step (fail) | quiet_step (fail))
      refine wpQuiet_nil ?_
      refine callGX (i := 23) (dc := 54) ⟨rfl, rfl, by decide⟩ (by kernel_rfl) rfl (regrown_of_below C3.out) ?_
      simp only [Act.put, List.setIfInBounds_toArray, List.set_cons_zero, List.set_cons_succ]
      refine callGX (i := 31) (dc := 62) ⟨rfl, rfl, by decide⟩ (by kernel_rfl) rfl (regrown_of_below C3.out) ?_
      simp only [Act.put, List.setIfInBounds_toArray, List.set_cons_zero, List.set_cons_succ]
      refine callGX (i := 32) (dc := 63) ⟨rfl, rfl, by decide⟩ (by kernel_rfl) rfl (regrown_of_below C3.out) ?_
      simp only [Act.put, List.setIfInBounds_toArray, List.set_cons_zero, List.set_cons_succ]
      refine lexG (g := 0) [33] (by kernel_rfl) (regrown_of_below C3.out) ?_
      simp only [List.filterMap_cons, List.filterMap_nil, List.getElem?_cons_succ, List.getElem?_cons_zero]
      show wpQuiet _ _ _ _ [_] _
      repeat (first | go_big_quiet_step (fail) | quiet_step (fail))
      refine wpQuiet_nil ?_
      refine ⟨by kernel_rfl, ?_⟩
      simp only [List.drop_succ_cons, List.drop_zero]
      go_wp2_with fail
      go_ret
      rw [NO.out (BAD1.out c1)]
      exact ⟨rfl, BW1.out.trans (C3.out.mono BW1.out.size)⟩
    by_cases h0 : 0 ≤ si
    · have d5 : decide (0 ≤ si) = true := decide_eq_true h0
      refine oneGX (i := 15) (dc := 46) (.bool false) ⟨rfl, rfl, by decide⟩ (by kernel_rfl) rfl ?run (regrown_of_below C3.out) ?_
      case run => go_simp
      simp only [Act.put, List.setIfInBounds_toArray, List.set_cons_zero, List.set_cons_succ]
      refine lexG (g := 4) [16, 17, 18, 19, 20, 21, 22, 24, 25, 26, 27, 28, 29, 30] (by kernel_rfl) (regrown_of_below C3.out) ?_
      simp only [List.filterMap_cons, List.filterMap_nil, List.getElem?_cons_succ, List.getElem?_cons_zero]
      show wpQuiet _ _ _ _ [_, _, _, _, _, _, _, _, _, _, _, _, _, _] _
      repeat (first | go_big_quiet_step (fail) | quiet_step (fail))
      refine wpQuiet_nil ?_
      refine callG (md := .any) (f := 3) (i := 23) (dc := 54) (fn := 62) ⟨rfl, rfl, by decide⟩ (by kernel_rfl) ?want ?run ((CO.out w3 C3.out).mono ?_)
      case want => rfl
      case run => go_simp
      rintro e w4 ⟨qo, rfl, hq, hb4⟩
      have C4 : Hid (Below w1.heap.size w1 w4) := C3.out.trans (hb4.mono z3)
      have AO : Hid (AtL (fun b => w3.heap.size ≤ b ∧ b < w4.heap.size) w4 O qo) := at_rowX hq OZ.out OL.out
      obtain ⟨oo, co, eqo, _⟩ := id AO.out
      subst eqo
      refine ⟨_, rfl, regrown_of_below C4.out, ?_⟩
      clear hq hb4
      simp only [Act.put, List.setIfInBounds_toArray, List.set_cons_zero, List.set_cons_succ]
      have AH4 : Hid (AtL S w4 Bs[a].2.1 (.slice q1 s1 t1)) := AH.out.same (Same.of_below C4.out S1.out)
      have z4 := C4.out.size
      refine callG (md := .any) (f := 2) (i := 31) (dc := 62) (fn := 61) ⟨rfl, rfl, by decide⟩ (by kernel_rfl) ?want ?run ((allX_any _ S O Bs[a].2.1 oo q1 _ co s1 t1 w4 AO.out AH4.out (fun b hb => hb.2) (fun b hb => by have := S1.out b hb; omega)).mono ?_)
      case want => rfl
      case run => go_simp
      rintro e w5 ⟨rfl, hb5⟩
      have C5 : Hid (Below w1.heap.size w1 w5) := C4.out.trans (hb5.mono z4)
      refine ⟨_, rfl, regrown_of_below C5.out, ?_⟩
      clear hb5
      simp only [Act.put, List.setIfInBounds_toArray, List.set_cons_zero, List.set_cons_succ]
      cases c2 : allB O Bs[a].2.1
      · refine oneGX (i := 32) (dc := 63) (.bool true) ⟨rfl, rfl, by decide⟩ (by kernel_rfl) rfl ?run (regrown_of_below C5.out) ?_
        case run => go_simp
        simp only [Act.put, List.setIfInBounds_toArray, List.set_cons_zero, List.set_cons_succ]
        refine lexG (g := 0) [33] (by kernel_rfl) (regrown_of_below C5.out) ?_
        simp only [List.filterMap_cons, List.filterMap_nil, List.getElem?_cons_succ, List.getElem?_cons_zero]
        show wpQuiet _ _ _ _ [_] _
        repeat (first | go_big_quiet_step (fail) | quiet_step (fail))
        refine wpQuiet_nil ?_
        refine ⟨by kernel_rfl, ?_⟩
        simp only [List.drop_succ_cons, List.drop_zero]
        go_wp2_with fail
        go_ret
        rw [NO.out (BAD2.out h0 c2)]
        exact ⟨rfl, BW1.out.trans (C5.out.mono BW1.out.size)⟩
      · refine oneGX (i := 32) (dc := 63) (.bool false) ⟨rfl, rfl, by decide⟩ (by kernel_rfl) rfl ?run (regrown_of_below C5.out) ?_
        case run => go_simp
        simp only [Act.put, List.setIfInBounds_toArray, List.set_cons_zero, List.set_cons_succ]
        refine lexG (g := 0) [33] (by kernel_rfl) (regrown_of_below C5.out) ?_
        simp only [List.filterMap_cons, List.filterMap_nil, List.getElem?_cons_succ, List.getElem?_cons_zero]
        show wpQuiet _ _ _ _ [_] _
        repeat (first | go_big_quiet_step (fail) | quiet_step (fail))
        refine wpQuiet_nil ?_
        refine ⟨by kernel_rfl, ?_⟩
        simp only [List.drop_succ_cons, List.drop_zero]
        go_wp2_with fail
        go_roundw
        case rel => exact ⟨k + 1, by omega, by go_num, fun j hj hjk => by
          by_cases e : j = k
          · subst e; exact OKR.out c1 (fun h0 => c2)
          · exact hall.out j hj (by omega), B1.out.trans (C5.out.mono B1.out.size)⟩
        case measure => simp [intOf]; omega
    · have d5 : decide (0 ≤ si) = false := decide_eq_false h0
      refine oneGX (i := 15) (dc := 46) (.bool false) ⟨rfl, rfl, by decide⟩ (by kernel_rfl) rfl ?run (regrown_of_below C3.out) ?_
      case run => go_simp
      simp only [Act.put, List.setIfInBounds_toArray, List.set_cons_zero, List.set_cons_succ]
      refine lexG (g := 4) [16, 17, 18, 19, 20, 21, 22, 24, 25, 26, 27, 28, 29, 30] (by kernel_rfl) (regrown_of_below C3.out) ?_
      simp only [List.filterMap_cons, List.filterMap_nil, List.getElem?_cons_succ, List.getElem?_cons_zero]
      show wpQuiet _ _ _ _ [_, _, _, _, _, _, _, _, _, _, _, _, _, _] _
      repeat (first | go_big_quiet_step (fail) | quiet_step (fail))
      refine wpQuiet_nil ?_
      refine callGX (i := 23) (dc := 54) ⟨rfl, rfl, by decide⟩ (by kernel_rfl) rfl (regrown_of_below C3.out) ?_
      simp only [Act.put, List.setIfInBounds_toArray, List.set_cons_zero, List.set_cons_succ]
      refine callGX (i := 31) (dc := 62) ⟨rfl, rfl, by decide⟩ (by kernel_rfl) rfl (regrown_of_below C3.out) ?_
      simp only [Act.put, List.setIfInBounds_toArray, List.set_cons_zero, List.set_cons_succ]
      refine callGX (i := 32) (dc := 63) ⟨rfl, rfl, by decide⟩ (by kernel_rfl) rfl (regrown_of_below C3.out) ?_
      simp only [Act.put, List.setIfInBounds_toArray, List.set_cons_zero, List.set_cons_succ]
      refine lexG (g := 0) [33] (by kernel_rfl) (regrown_of_below C3.out) ?_
      simp only [List.filterMap_cons, List.filterMap_nil, List.getElem?_cons_succ, List.getElem?_cons_zero]
      show wpQuiet _ _ _ _ [_] _
      repeat (first | go_big_quiet_step (fail) | quiet_step (fail))
      refine wpQuiet_nil ?_
      refine ⟨by kernel_rfl, ?_⟩
      simp only [List.drop_succ_cons, List.drop_zero]
      go_wp2_with fail
      go_roundw
      case rel => exact ⟨k + 1, by omega, by go_num, fun j hj hjk => by
        by_cases e : j = k
        · subst e; exact OKR.out c1 (fun h0 => absurd h0 (by omega))
        · exact hall.out j hj (by omega), B1.out.trans (C3.out.mono B1.out.size)⟩
      case measure => simp [intOf]; omega
end Go.Proofs.YtobchllaopdchacGreat
