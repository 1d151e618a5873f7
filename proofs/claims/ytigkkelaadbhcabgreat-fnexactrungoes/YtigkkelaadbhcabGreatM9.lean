/-
  Several texts in one.
-/
import Derived.Test.YtigkkelaadbhcabGreatM8
import Derived.Laws.OwnMore
namespace Go.Proofs.YtigkkelaadbhcabGreat
open Go.Sort
section
variable {P : Program} {md : Region.Mode} {ops : Array Oper} {C : World → Prop} {n : Nat} {L : Array Bool → Act → World → Prop}
def valB (o : Oper) : Bool := match o.op with
  | .move _ | .assign _ | .load _ _ | .fieldAddr _ _ _ | .indexAddr _ _ _ | .slice _ _ _ _ _ | .index _ _ _ | .binOp _ _ _ _ _ | .build _ _ | .extract _ _ => true
  | .call { callee := .builtin .len, .. } => true
  | _ => false
theorem then_value {r : Result Value} {f : FuncId} {args : Array Value} {w : World} : r.andThen (fun a w' => .ok (Next.value a) w') ≠ .ok (.enter f args) w := by
  cases r <;> simp [Result.andThen]
theorem v_ne (s : Sem Value) (f : FuncId) (args : Array Value) (w w' : World) : Sem.run P (do let x ← s; pure (Next.value x)) w ≠ .ok (.enter f args) w' := by
  simp only [Sem.run_bind, Sem.run_pure]; exact then_value
theorem val_only {o : Oper} (h : valB o = true) (ρ : Operand → Value) (w : World) (f : FuncId) (args : Array Value) (w' : World) : (execOp ρ o).run P w ≠ .ok (.enter f args) w' := by
  unfold valB at h
  unfold execOp
  split at h <;> rename_i heq
  all_goals (try (cases h; done))
  all_goals rw [heq]
  all_goals first
    | exact v_ne _ _ _ _ _
    | (intro e; cases e)
theorem val_of_quiet {o : Oper} (h : valB o = true) {a : Act} {v : Value} (hq : ∀ w, C w → o.quietAt P a C w v) (hs : ∀ w, C w → ∀ w', (execOp a.eval o).run P w ≠ .ok .skip w') : ∀ w, C w → (execOp a.eval o).run P w = .ok (.value v) w := by
  intro w hw
  have h1 := hq w hw
  unfold Oper.quietAt at h1
  have h2 := val_only (P := P) h a.eval w
  have h3 := hs w hw
  generalize (execOp a.eval o).run P w = r at *
  cases r with
  | halt x w' => simp only [Oper.quietUpon] at h1
  | ok m w' =>
    cases m with
    | value u => simp only [Oper.quietUpon] at h1; rw [h1.1, h1.2]
    | skip => exact absurd rfl (h3 w')
    | enter f args => exact absurd rfl (h2 f args w')
    | _ => simp only [Oper.quietUpon] at h1
theorem then_skip {r : Result Value} {w : World} : r.andThen (fun a w' => .ok (Next.value a) w') ≠ .ok .skip w := by
  cases r <;> simp [Result.andThen]
theorem v_ns (s : Sem Value) (w w' : World) : Sem.run P (do let x ← s; pure (Next.value x)) w ≠ .ok .skip w' := by
  simp only [Sem.run_bind, Sem.run_pure]; exact then_skip
theorem val_skip {o : Oper} (h : valB o = true) (ρ : Operand → Value) (w w' : World) : (execOp ρ o).run P w ≠ .ok .skip w' := by
  unfold valB at h
  unfold execOp
  split at h <;> rename_i heq
  all_goals (try (cases h; done))
  all_goals rw [heq]
  all_goals first
    | exact v_ns _ _ _
    | (intro e; cases e)
def stepC (P : Program) (ops : Array Oper) (i : Nat) (K : Act → World → Prop) (a : Act) (w : World) : Prop :=
  ∃ o, ops[i]? = some o ∧ o.guard = none ∧ ∃ u w', (execOp a.eval o).run P w = .ok (.value u) w' ∧ K (a.put o.dst u) w'
def stepE (P : Program) (ops : Array Oper) (i : Nat) (K : Act → World → Prop) (a : Act) (w : World) : Prop :=
  ∃ o, ops[i]? = some o ∧ o.guard = none ∧ ∃ f args, (execOp a.eval o).run P w = .ok (.enter f args) w ∧ Calls P f args w (fun e w'' => ∃ u, e = .returned u ∧ K (a.put o.dst u) w'')
def anyC (P : Program) (md : Region.Mode) (ops : Array Oper) (C : World → Prop) (n : Nat) (L : Array Bool → Act → World → Prop) : Nat → Array Bool → Act → World → Prop
  | 0, listed, a, w => L listed a w
  | f + 1, listed, a, w => Region.ready md ops listed ≠ [] ∧ ∀ i ∈ Region.ready md ops listed, i < n ∧ (stepC P ops i (fun a' w' => C w' ∧ anyC P md ops C n L f (listed.setIfInBounds i true) a' w') a w ∨ stepE P ops i (fun a' w' => C w' ∧ anyC P md ops C n L f (listed.setIfInBounds i true) a' w') a w)
theorem any_of_C {Q : Exit → Act → World → Prop} {g : Nat} (hL : ∀ listed a w, L listed a w → wpAny P md ops Q g listed a w) :
    ∀ (f : Nat) (listed : Array Bool) (a : Act) (w : World), anyC P md ops C n L f listed a w → wpAny P md ops Q (f + g) listed a w
  | 0, listed, a, w, h => by rw [Nat.zero_add]; exact hL _ _ _ h
  | f + 1, listed, a, w, h => by
    rw [show f + 1 + g = (f + g) + 1 by omega]
    refine ⟨fun h0 => absurd h0 h.1, fun i hi => ?_⟩
    rcases (h.2 i hi).2 with ⟨o, ho, hg, u, w', hr, _, hk⟩ | ⟨o, ho, hg, fn, args, hr, hk⟩
    · unfold wpOp
      simp only [ho, wanted_none hg, if_true]
      refine .inl ?_
      unfold Oper.wp
      rw [hr]
      exact any_of_C hL f _ _ _ hk
    · unfold wpOp
      simp only [ho, wanted_none hg, if_true]
      refine .inl ?_
      unfold Oper.wp
      rw [hr]
      exact hk.mono fun e w'' ⟨u, he, _, hk'⟩ => by subst he; exact any_of_C hL f _ _ _ hk'
theorem anyC_first {i : Nat} {oi : Oper} {v : Value} (hi : ops[i]? = some oi) (hgi : oi.guard = none) (hsel : Region.noSelect ops = true) (hs : Region.sinkB md ops n = true) (hc : Region.chainB md ops n = true) (hn : n < ops.size) (hin : i < n)
    (hdone : ∀ listed a w, L listed a w → ∀ j ∈ Region.ready md ops listed, n ≤ j) :
    ∀ (f : Nat) (listed : Array Bool) (a : Act) (w : World), C w → HeadInv md ops n listed →
      (∀ j oj, ops[j]? = some oj → j ≠ i → listed.getD j true = false → (∀ e ∈ oj.after, Region.binds md e = true → e.on ≠ i) → oi.apart ops oj = true) →
      i ∈ Region.ready md ops listed → (∀ w, C w → (execOp a.eval oi).run P w = .ok (.value v) w) →
      anyC P md ops C n L f (listed.setIfInBounds i true) (a.put oi.dst v) w → anyC P md ops C n L (f + 1) listed a w := by
  intro f
  induction f with
  | zero =>
    intro listed a w hw inv _ hr hy H
    refine ⟨(fun h => by rw [h] at hr; cases hr), fun j hj => ?_⟩
    by_cases hji : j = i
    · subst hji; exact ⟨hin, .inl ⟨oi, hi, hgi, v, w, hy w hw, hw, H⟩⟩
    · have h1 := hdone _ _ _ H j (ready_mono hj hji)
      exact absurd hj (tail_waits hs hc hn inv _ i rfl hin (mem_ready.1 hr).1 j h1)
  | succ f ih =>
    intro listed a w hw inv hfree hr hy H
    refine ⟨(fun h => by rw [h] at hr; cases hr), fun j hj => ?_⟩
    by_cases hji : j = i
    · subst hji; exact ⟨hin, .inl ⟨oi, hi, hgi, v, w, hy w hw, hw, H⟩⟩
    · obtain ⟨hjn, hstep⟩ := H.2 j (ready_mono hj hji)
      obtain ⟨hjun, oj, hoj, hall⟩ := mem_ready.1 hj
      have hiun := (mem_ready.1 hr).1
      have hnot : ∀ e ∈ oj.after, Region.binds md e = true → e.on ≠ i := fun e he hb heq => by
        have h1 := hall e he hb
        rw [heq, getD_both hiun] at h1
        cases h1
      obtain ⟨h1, h2, h3⟩ := Oper.apart_spec (hfree j oj hoj hji hjun hnot)
      have hex : execOp (a.put oi.dst v).eval oj = execOp a.eval oj := execOp_put (ops := ops) oj (fun cs b => Region.noSelect_spec hsel j oj cs b hoj) a oi.dst v h1
      have next : ∀ u w', C w' → anyC P md ops C n L f ((listed.setIfInBounds i true).setIfInBounds j true) ((a.put oi.dst v).put oj.dst u) w' → anyC P md ops C n L (f + 1) (listed.setIfInBounds j true) (a.put oj.dst u) w' := by
        intro u w' hC' hrest
        refine ih (listed.setIfInBounds j true) (a.put oj.dst u) w' hC' (inv.set hj hjn) ?_ (ready_mono hr (Ne.symm hji)) ?_ ?_
        · intro k ok hk hki hun hno
          refine hfree k ok hk hki ?_ hno
          by_cases hjk : j = k
          · subst hjk; exact hjun
          · rw [getD_set_ne true hjk] at hun; exact hun
        · intro w1 hw1
          rw [execOp_put (ops := ops) oi (fun cs b => Region.noSelect_spec hsel i oi cs b hi) a oj.dst u h3]
          exact hy w1 hw1
        · rw [Array.setIfInBounds_comm _ _ hji, ← Act.put_comm a v u h2]
          exact hrest
      refine ⟨hjn, ?_⟩
      rcases hstep with ⟨oj', hoj', hgj, u, w', hrun, hC', hrest⟩ | ⟨oj', hoj', hgj, fn, args, hrun, hrest⟩
      · obtain rfl := Option.some.inj (hoj.symm.trans hoj')
        exact .inl ⟨oj, hoj, hgj, u, w', by rw [← hex]; exact hrun, hC', next u w' hC' hrest⟩
      · obtain rfl := Option.some.inj (hoj.symm.trans hoj')
        exact .inr ⟨oj, hoj, hgj, fn, args, by rw [← hex]; exact hrun, hrest.mono fun e w'' ⟨u, he, hC', hk⟩ => ⟨u, he, hC', next u w'' hC' hk⟩⟩
def mixB (md : Region.Mode) (ops : Array Oper) (n : Nat) : List Nat → Array Bool → Bool
  | [], _ => true
  | k :: ks, listed => (Region.ready md ops listed).contains k && Region.free md ops listed k && decide (k < n) && (match ops[k]? with | some o => valB o && o.guard.isNone | none => false) && mixB md ops n ks (listed.setIfInBounds k true)
def listAll (ks : List Nat) (listed : Array Bool) : Array Bool := ks.foldl (fun l k => l.setIfInBounds k true) listed
theorem anyC_lex (hsel : Region.noSelect ops = true) (hs : Region.sinkB md ops n = true) (hc : Region.chainB md ops n = true) (hn : n < ops.size) (hdone : ∀ listed a w, L listed a w → ∀ j ∈ Region.ready md ops listed, n ≤ j) (g : Nat) (w : World) (hw : C w) :
    ∀ (ks : List Nat) (os : List Oper) (listed : Array Bool) (a : Act), os.map some = ks.map (ops[·]?) → HeadInv md ops n listed → mixB md ops n ks listed = true →
      wpQuiet P ops C (fun a' => anyC P md ops C n L g (listAll ks listed) a' w) os a → anyC P md ops C n L (ks.length + g) listed a w
  | [], os, listed, a, he, _, _, h => by
    have : os = [] := by simpa using he
    subst this
    rw [List.length_nil, Nat.zero_add]; exact h
  | k :: ks, os, listed, a, he, inv, hB, h => by
    match os, he with
    | o :: os, he =>
      simp only [List.map_cons, List.cons.injEq] at he
      obtain ⟨ho, he⟩ := he
      simp only [mixB, ← ho, Bool.and_eq_true, decide_eq_true_eq, Option.isNone_iff_eq_none] at hB
      obtain ⟨⟨⟨⟨hr, hf⟩, hk⟩, hv, hg⟩, hB'⟩ := hB
      have hr' : k ∈ Region.ready md ops listed := by simpa using hr
      simp only [wpQuiet, wanted_none hg, if_true] at h
      obtain ⟨v, hq, hnext⟩ := h
      rw [List.length_cons, show ks.length + 1 + g = (ks.length + g) + 1 by omega]
      exact anyC_first ho.symm hg hsel hs hc hn hk hdone _ listed a w hw inv (Region.free_spec ho.symm hf) hr' (val_of_quiet hv hq (fun w _ w' => val_skip hv a.eval w w'))
        (anyC_lex hsel hs hc hn hdone g w hw ks os _ _ he (inv.set hr' hk) hB' hnext)
def mixTailB (l : List Oper) (n : Nat) (ks : List Nat) : Bool :=
  Region.noSelect l.toArray && decide (n < l.length) && decide (ks.length ≤ n) && Region.sinkB .any l.toArray n && Region.chainB .any l.toArray n && mixB .any l.toArray n ks (Array.replicate l.length false)
def tailC (P : Program) (Q : Exit → Act → World → Prop) (l : List Oper) (n : Nat) (listed : Array Bool) (a : Act) (w : World) : Prop :=
  Region.seqB .any l.toArray (l.length - n) n listed = true ∧ wpList P l.toArray Q (l.drop n) a w
theorem wp_region_mixed {id : Nat} {Q : Exit → Act → World → Prop} {a : Act} {w : World} {l : List Oper} (n : Nat) (ks : List Nat) (os : List Oper) (hm : P.follows .mixedOrders = true) (hB : mixTailB l n ks = true) (hos : os.map some = ks.map (l.toArray[·]?))
    (h : wpQuiet P l.toArray (fun w' => ∃ p : Regrown, w' = grow (redrawn w p.d) p.os) (fun a' => anyC P .any l.toArray (fun w' => ∃ p : Regrown, w' = grow (redrawn w p.d) p.os) n (tailC P Q l n) (n - ks.length) (listAll ks (Array.replicate l.length false)) a' w.drew) os a) :
    (Code.region id l.toArray true).wp P Q a w := by
  simp only [mixTailB, Bool.and_eq_true, decide_eq_true_eq] at hB
  obtain ⟨⟨⟨⟨⟨hsel, hn⟩, hkn⟩, hs⟩, hc⟩, hmix⟩ := hB
  have hn' : n < l.toArray.size := by simpa using hn
  have hdl : (l.drop n).length = l.length - n := by simp
  have inv0 : HeadInv .any l.toArray n (Array.replicate l.length false) :=
    ⟨by simp, fun j oj _ hl => (by rw [getD_replicate_false] at hl; cases hl), fun t _ ht => getD_in (by simpa using ht) (getD_replicate_false _ _)⟩
  have H := anyC_lex (P := P) (md := .any) (L := tailC P Q l n) hsel hs hc hn' (fun listed a w hL => seqB_ready hL.1) (n - ks.length) w.drew ⟨⟨w.drawn + 1, #[]⟩, by rw [grow_empty]; rfl⟩ ks os _ a hos inv0 hmix h
  have G := any_of_C (Q := Q) (g := l.length - n) (fun listed a' w' hL => by
    have := wpAny_of_seq (P := P) (md := .any) (ops := l.toArray) (Q' := Q) (l.drop n) n listed a' w' (fun j => by simp [List.getElem?_drop]) (by rw [hdl]; exact hL.1) hL.2
    rwa [hdl] at this) _ _ _ _ H
  rw [show ks.length + (n - ks.length) + (l.length - n) = l.toArray.size by simp; omega] at G
  refine wp_region_any hm ?_
  simpa using G
theorem mix_ops {l : List Oper} {n : Nat} : ∀ (ks : List Nat) (listed : Array Bool), mixB md l.toArray n ks listed = true → (ks.filterMap fun k => l[k]?).map some = ks.map (l.toArray[·]?)
  | [], _, _ => rfl
  | k :: ks, listed, h => by
    simp only [mixB, Bool.and_eq_true] at h
    obtain ⟨⟨_, hv⟩, h'⟩ := h
    have ih := mix_ops ks _ h'
    cases ho : l[k]? with
    | none => simp [ho] at hv
    | some o =>
      rw [List.filterMap_cons]
      simp only [ho, List.map_cons, ih]
      simp [ho]
theorem wp_region_mix {id : Nat} {Q : Exit → Act → World → Prop} {a : Act} {w : World} {l : List Oper} (n : Nat) (ks : List Nat) (hm : P.follows .mixedOrders = true) (hB : mixTailB l n ks = true)
    (h : wpQuiet P l.toArray (fun w' => ∃ p : Regrown, w' = grow (redrawn w p.d) p.os) (fun a' => anyC P .any l.toArray (fun w' => ∃ p : Regrown, w' = grow (redrawn w p.d) p.os) n (tailC P Q l n) (n - ks.length) (listAll ks (Array.replicate l.length false)) a' w.drew) (ks.filterMap fun k => l[k]?) a) :
    (Code.region id l.toArray true).wp P Q a w := by
  refine wp_region_mixed n ks _ hm hB ?_ h
  simp only [mixTailB, Bool.and_eq_true] at hB
  exact mix_ops ks _ hB.2
theorem anyC_step {f : Nat} {listed : Array Bool} {a : Act} {w : World} (rs : List Nat) (hr : Region.ready md ops listed = rs) (h0 : rs ≠ []) (h : ∀ i ∈ rs, i < n ∧ stepC P ops i (fun a' w' => C w' ∧ anyC P md ops C n L f (listed.setIfInBounds i true) a' w') a w) : anyC P md ops C n L (f + 1) listed a w := by
  subst hr; exact ⟨h0, fun i hi => ⟨(h i hi).1, .inl (h i hi).2⟩⟩
theorem anyC_call {f : Nat} {listed : Array Bool} {a : Act} {w : World} (i : Nat) (hr : Region.ready md ops listed = [i]) (hi : i < n) (h : stepE P ops i (fun a' w' => C w' ∧ anyC P md ops C n L f (listed.setIfInBounds i true) a' w') a w) : anyC P md ops C n L (f + 1) listed a w := by
  refine ⟨by rw [hr]; simp, fun j hj => ?_⟩
  rw [hr] at hj
  obtain rfl := List.mem_singleton.1 hj
  exact ⟨hi, .inr h⟩
end
end Go.Proofs.YtigkkelaadbhcabGreat

namespace Go.Proofs.YtigkkelaadbhcabGreat
open Go.RowKit Go.Sort
section
variable {P : Program}
def Src (w : World) (v : Value) (m size : Nat) (news : List Value) : Prop :=
  news.length = m * size ∧ ((v = .slice none 0 0 ∧ m = 0) ∨ ∃ ad c, v = .slice (some ad) m c ∧ ∀ (j : Nat) (u : Value), news[j]? = some u → w.cell? (ad.add j) = some u)
theorem Src.below {w w' : World} {v : Value} {m size : Nat} {news : List Value} (h : Src w v m size news) (hb : Below w.heap.size w w') : Src w' v m size news := by
  refine ⟨h.1, ?_⟩
  rcases h.2 with h | ⟨ad, c, hv, hc⟩
  · exact .inl h
  · exact .inr ⟨ad, c, hv, fun j u hj => (hb.cell (World.block_lt_of_cell? w _ (hc j u hj))).trans (hc j u hj)⟩
theorem Src.grown {w w' : World} {v : Value} {m size : Nat} {news : List Value} {row : Option Nat} (h : Src w v m size news) (hg : w.grownBy w' row) (hne : ∀ ad n c, v = .slice (some ad) n c → some ad.block ≠ row) : Src w' v m size news := by
  refine ⟨h.1, ?_⟩
  rcases h.2 with h | ⟨ad, c, hv, hc⟩
  · exact .inl h
  · exact .inr ⟨ad, c, hv, fun j u hj => hg.cell (hc j u hj) (by have := hne ad m c hv; unfold Addr.add; split <;> exact this)⟩
theorem Src.tail {w : World} {A A' : Addr} {c0 k m c size : Nat} {news : List Value} (hl : news.length = m * size) (h0 : c0 = k → m = 0) (h : c0 ≠ k → ∀ (j : Nat) (u : Value), news[j]? = some u → w.cell? (A'.add j) = some u) : Src w (.slice (if c0 = k then some A else some A') m c) m size news := by
  refine ⟨hl, .inr ?_⟩
  by_cases e : c0 = k
  · rw [if_pos e]
    refine ⟨A, c, rfl, fun j u hj => ?_⟩
    rw [h0 e, Nat.zero_mul] at hl
    rw [List.eq_nil_of_length_eq_zero hl] at hj
    simp at hj
  · rw [if_neg e]; exact ⟨A', c, rfl, h e⟩
theorem add_at (b o j : Nat) : (⟨b, o, none⟩ : Addr).add j = ⟨b, o + j, none⟩ := by
  unfold Addr.add
  split
  · rename_i h; subst h; rfl
  · rfl
structure ElT (P : Program) (t e : TypeId) (size bytes : Nat) : Prop where
  ht : P.underlying t = some (.slice e)
  info : ∃ i z, P.info? e = some i ∧ i.zero = some z ∧ i.size = size ∧ i.bytes = bytes ∧ z.cells.size = size
  pos : 0 < size
theorem exec_append {t e : TypeId} {size bytes base n m : Nat} {w : World} {o : Oper} {a : Act} {v sv : Value} {xs news : List Value} (T : ElT P t e size bytes) (s x : Operand) (ho : o.op = .call { callee := .builtin .append, args := #[s, x], argTypes := #[t, t] })
    (hs : a.eval s = v) (hx : a.eval x = sv) (hown : w.ownsRow base e size v n xs) (hsrc : Src w sv m size news) (h1 : ∀ u ∈ news, u.oneCell' = true) (h63 : n + m ≤ maxLen) (hbytes : (n + m) * bytes ≤ 140737488355328) (hbase : base ≤ w.heap.size) :
    ∃ v' w', (execOp a.eval o).run P w = .ok (.value v') w' ∧ w'.ownsRow base e size v' (n + m) (xs ++ news) ∧ w.grownBy w' v.ownBlock := by
  obtain ⟨i, z, hi, hz, h2, h3, h4⟩ := T.info
  rcases hsrc with ⟨hl, ⟨rfl, rfl⟩ | ⟨ad, c, rfl, hc⟩⟩
  · have hn : news = [] := List.eq_nil_of_length_eq_zero (by simpa using hl)
    subst hn
    have hr := run_append_owned_none (P := P) (w := w) base t o.type e i size T.ht hi v n xs hown
    refine ⟨v, w, ?_, by simpa using hown, ⟨rfl, rfl, rfl, Nat.le_refl _, fun _ _ _ => rfl⟩⟩
    unfold execOp
    simp only [ho, resolve, invoke, builtin, Sem.run_bind, Sem.run_pure, Result.andThen_ok, List.map_toArray, List.map_cons, List.map_nil, hs, hx, hr]
  · obtain ⟨v', w', hr, q1, q2, _⟩ := run_append_own (P := P) w base t o.type e i z size bytes T.ht hi hz h2 h3 h4 T.pos v n xs hown ad m c news hl hc h1 h63 hbytes hbase
    refine ⟨v', w', ?_, q1, q2⟩
    unfold execOp
    simp only [ho, resolve, invoke, builtin, Sem.run_bind, Sem.run_pure, Result.andThen_ok, List.map_toArray, List.map_cons, List.map_nil, hs, hx, hr]
theorem eval_at {a : Act} {d : Nat} {v : Value} (h : d < a.tmps.size) : (a.put (some d) v).eval (.tmp d) = v := by
  simp [Act.eval, Act.put, h]
theorem eval_ne {a : Act} {d k : Nat} {v : Value} (h : k ≠ d) : (a.put (some d) v).eval (.tmp k) = a.eval (.tmp k) :=
  Act.eval_put fun d' hd => by cases hd; simpa using h
theorem put_size (a : Act) (d : Option Nat) (v : Value) : (a.put d v).tmps.size = a.tmps.size := by
  cases d <;> simp [Act.put]
structure Ins (P : Program) (md : Region.Mode) (ops : Array Oper) (n : Nat) (t e : TypeId) (listed : Array Bool) (i0 i1 i2 i3 i4 d0 d1 d2 d3 d4 k1 k2 kx : Nat) (X : Value) where
  o0 : Oper
  o1 : Oper
  o2 : Oper
  o3 : Oper
  o4 : Oper
  at0 : ops[i0]? = some o0 ∧ o0.guard = none ∧ o0.dst = some d0 ∧ i0 < n
  at1 : ops[i1]? = some o1 ∧ o1.guard = none ∧ o1.dst = some d1 ∧ i1 < n
  at2 : ops[i2]? = some o2 ∧ o2.guard = none ∧ o2.dst = some d2 ∧ i2 < n
  at3 : ops[i3]? = some o3 ∧ o3.guard = none ∧ o3.dst = some d3 ∧ i3 < n
  at4 : ops[i4]? = some o4 ∧ o4.guard = none ∧ o4.dst = some d4 ∧ i4 < n
  op1 : o1.op = .call { callee := .builtin .append, args := #[.tmp d0, .tmp k1], argTypes := #[t, t] }
  op3 : o3.op = .call { callee := .builtin .append, args := #[.tmp d1, .tmp d2], argTypes := #[t, t] }
  op4 : o4.op = .call { callee := .builtin .append, args := #[.tmp d3, .tmp k2], argTypes := #[t, t] }
  run0 : ∀ (b : Act) (w : World), (execOp b.eval o0).run P w = .ok (.value (.slice (some ⟨w.heap.size, 0, none⟩) 0 0)) (w.alloc (.cells #[] e))
  run2 : ∀ (b : Act), b.eval (.tmp kx) = X → ∀ w : World, (execOp b.eval o2).run P w = .ok (.value (.slice (some ⟨w.heap.size, 0, none⟩) 1 1)) (w.alloc (.cells X.cells e))
  ne : [d0, d1, d2, d3, d4, k1, k2, kx].Nodup
  ni : [i0, i1, i2, i3, i4].Nodup
  r : Region.ready md ops listed = [i0, i2]
  r0 : Region.ready md ops (listed.setIfInBounds i0 true) = [i1, i2]
  r2 : Region.ready md ops (listed.setIfInBounds i2 true) = [i0]
  r01 : Region.ready md ops ((listed.setIfInBounds i0 true).setIfInBounds i1 true) = [i2]
  r02 : Region.ready md ops ((listed.setIfInBounds i0 true).setIfInBounds i2 true) = [i1]
  r3 : Region.ready md ops (((listed.setIfInBounds i0 true).setIfInBounds i1 true).setIfInBounds i2 true) = [i3]
  r4 : Region.ready md ops ((((listed.setIfInBounds i0 true).setIfInBounds i1 true).setIfInBounds i2 true).setIfInBounds i3 true) = [i4]
theorem one_list {i : Nat} {p : Nat → Prop} (h : p i) : ∀ j ∈ [i], p j := fun j hj => by
  obtain rfl := List.mem_singleton.1 hj; exact h
theorem two_list {i i' : Nat} {p : Nat → Prop} (h : p i) (h' : p i') : ∀ j ∈ [i, i'], p j := fun j hj => by
  simp only [List.mem_cons, List.not_mem_nil, or_false] at hj
  rcases hj with rfl | rfl
  · exact h
  · exact h'
def Kept (W : World) : World → Prop := fun w' => ∃ p : Regrown, w' = grow (redrawn W p.d) p.os
set_option maxHeartbeats 1000000 in
theorem ins3 {md : Region.Mode} {ops : Array Oper} {n : Nat} {L : Array Bool → Act → World → Prop} {t e : TypeId} {size bytes : Nat} {listed : Array Bool} {i0 i1 i2 i3 i4 d0 d1 d2 d3 d4 k1 k2 kx : Nat}
    {X : Value} (I : Ins P md ops n t e listed i0 i1 i2 i3 i4 d0 d1 d2 d3 d4 k1 k2 kx X) (T : ElT P t e size bytes) {W : World} {a : Act} (ha : d0 < a.tmps.size ∧ d1 < a.tmps.size ∧ d2 < a.tmps.size ∧ d3 < a.tmps.size ∧ d4 < a.tmps.size)
    {S1 S2 : Value} {m1 m2 : Nat} {c1 c2 : List Value} (e1 : a.eval (.tmp k1) = S1) (e2 : a.eval (.tmp k2) = S2) (ex : a.eval (.tmp kx) = X) (s1 : Src W S1 m1 size c1) (s2 : Src W S2 m2 size c2) (hx : X.cells.size = size)
    (u1 : ∀ u ∈ c1, u.oneCell' = true) (u2 : ∀ u ∈ c2, u.oneCell' = true) (ux : ∀ u ∈ X.cells.toList, u.oneCell' = true) (hb : (m1 + 1 + m2) * bytes ≤ 140737488355328) (hm : m1 + 1 + m2 ≤ maxLen)
    (K : ∀ v0 v1 v2 v3 v4 w', w'.ownsRow W.heap.size e size v4 (m1 + 1 + m2) (c1 ++ X.cells.toList ++ c2) → Below W.heap.size W w' →
      L (((((listed.setIfInBounds i0 true).setIfInBounds i1 true).setIfInBounds i2 true).setIfInBounds i3 true).setIfInBounds i4 true) (((((a.put (some d0) v0).put (some d1) v1).put (some d2) v2).put (some d3) v3).put (some d4) v4) w') :
    anyC P md ops (Kept W) n L 5 listed a W.drew := by
  obtain ⟨h0, g0, t0, n0⟩ := I.at0
  obtain ⟨h1, g1, t1, n1⟩ := I.at1
  obtain ⟨h2, g2, t2, n2⟩ := I.at2
  obtain ⟨h3, g3, t3, n3⟩ := I.at3
  obtain ⟨h4, g4, t4, n4⟩ := I.at4
  obtain ⟨a0, a1, a2, a3, a4⟩ := ha
  have nd := I.ne
  simp only [List.nodup_cons, List.mem_cons, List.not_mem_nil, or_false, not_or, not_false_eq_true, List.nodup_nil, and_true] at nd
  obtain ⟨⟨d01, d02, d03, d04, d0k1, d0k2, d0x⟩, ⟨d12, d13, d14, d1k1, d1k2, d1x⟩, ⟨d23, d24, d2k1, d2k2, d2x⟩, ⟨d34, d3k1, d3k2, d3x⟩, _⟩ := nd
  have nn := I.ni
  simp only [List.nodup_cons, List.mem_cons, List.not_mem_nil, or_false, not_or, not_false_eq_true, List.nodup_nil, and_true] at nn
  obtain ⟨⟨i01, i02, _, _⟩, ⟨i12, _, _⟩, _⟩ := nn
  have hm1 : m1 * bytes ≤ 140737488355328 := Nat.le_trans (Nat.mul_le_mul_right _ (by omega)) hb
  have hm2 : (m1 + 1) * bytes ≤ 140737488355328 := Nat.le_trans (Nat.mul_le_mul_right _ (by omega)) hb
  have kept : ∀ {w'}, Below W.heap.size W w' → Kept W w' := fun h => regrown_of_below h
  have B0 : Below W.heap.size W W.drew := (Below.refl _ _).drew
  -- the last two, from the state in which the first three are done
  have last : ∀ (v0 v1 v2 : Value) (w : World), w.ownsRow W.heap.size e size v1 m1 c1 → Src w v2 1 size X.cells.toList → Below W.heap.size W w →
      anyC P md ops (Kept W) n L 2 (((listed.setIfInBounds i0 true).setIfInBounds i1 true).setIfInBounds i2 true) (((a.put (some d0) v0).put (some d1) v1).put (some d2) v2) w := by
    intro v0 v1 v2 w ho hs hw
    refine anyC_step _ I.r3 (by simp) (one_list ⟨n3, I.o3, h3, g3, ?_⟩)
    have E1 : (((a.put (some d0) v0).put (some d1) v1).put (some d2) v2).eval (.tmp d1) = v1 := by
      rw [eval_ne d12, eval_at (by simpa [put_size] using a1)]
    have E2 : (((a.put (some d0) v0).put (some d1) v1).put (some d2) v2).eval (.tmp d2) = v2 := eval_at (by simpa [put_size] using a2)
    obtain ⟨v3, w3, hr3, ho3, hg3⟩ := exec_append T _ _ I.op3 E1 E2 ho hs ux (by omega) hm2 hw.size
    have hw3 : Below W.heap.size W w3 := hw.grown hg3 hw.size (fun q hq => (ho.lt q hq).1)
    refine ⟨v3, w3, hr3, kept hw3, ?_⟩
    rw [t3]
    refine anyC_step _ I.r4 (by simp) (one_list ⟨n4, I.o4, h4, g4, ?_⟩)
    have E3 : ((((a.put (some d0) v0).put (some d1) v1).put (some d2) v2).put (some d3) v3).eval (.tmp d3) = v3 := eval_at (by simpa [put_size] using a3)
    have E4 : ((((a.put (some d0) v0).put (some d1) v1).put (some d2) v2).put (some d3) v3).eval (.tmp k2) = S2 := by
      rw [eval_ne (Ne.symm d3k2), eval_ne (Ne.symm d2k2), eval_ne (Ne.symm d1k2), eval_ne (Ne.symm d0k2)]; exact e2
    obtain ⟨v4, w4, hr4, ho4, hg4⟩ := exec_append T _ _ I.op4 E3 E4 ho3 (s2.below hw3) u2 hm hb hw3.size
    have hw4 : Below W.heap.size W w4 := hw3.grown hg4 hw3.size (fun q hq => (ho3.lt q hq).1)
    refine ⟨v4, w4, hr4, kept hw4, ?_⟩
    rw [t4]
    exact K v0 v1 v2 v3 v4 w4 ho4 hw4
  have src_new : ∀ w : World, Src (w.alloc (.cells X.cells e)) (.slice (some ⟨w.heap.size, 0, none⟩) 1 1) 1 size X.cells.toList := fun w => by
    refine ⟨by simp [hx], .inr ⟨_, _, rfl, fun j u hj => ?_⟩⟩
    have : X.cells[j]? = some u := by simpa using hj
    have key : ∀ i u, X.cells[i]? = some u → (w.alloc (.cells X.cells e)).cell? ⟨w.heap.size, i, none⟩ = some u := fun i u hi => by
      simp only [World.cell?, heap_alloc_new, hi]; rfl
    unfold Addr.add
    split
    · rename_i h0; subst h0; exact key 0 u this
    · show (w.alloc (.cells X.cells e)).cell? ⟨w.heap.size, 0 + j, none⟩ = some u
      rw [Nat.zero_add]; exact key j u this
  refine anyC_step _ I.r (by simp) (two_list ?_ ?_)
  · -- the empty list first
    refine ⟨n0, I.o0, h0, g0, _, _, I.run0 a W.drew, kept (B0.alloc (by simp) _), ?_⟩
    rw [t0]
    have O0 : (W.drew.alloc (.cells #[] e)).ownsRow W.heap.size e size (.slice (some ⟨W.drew.heap.size, 0, none⟩) 0 0) 0 [] := World.ownsRow_made W.drew #[] 0 (by simp) (Nat.zero_le _) (by simp)
    have BA : Below W.heap.size W (W.drew.alloc (.cells #[] e)) := B0.alloc (by simp) _
    refine anyC_step _ I.r0 (by simp) (two_list ?_ ?_)
    · -- then what stands ahead
      refine ⟨n1, I.o1, h1, g1, ?_⟩
      have E0 : (a.put (some d0) (.slice (some ⟨W.drew.heap.size, 0, none⟩) 0 0)).eval (.tmp d0) = .slice (some ⟨W.drew.heap.size, 0, none⟩) 0 0 := eval_at a0
      have E1 : (a.put (some d0) (.slice (some ⟨W.drew.heap.size, 0, none⟩) 0 0)).eval (.tmp k1) = S1 := by rw [eval_ne (Ne.symm d0k1)]; exact e1
      obtain ⟨v1, w1, hr1, ho1, hg1⟩ := exec_append T _ _ I.op1 E0 E1 O0 (s1.below BA) u1 (by omega) (by simpa using hm1) BA.size
      have hw1 : Below W.heap.size W w1 := BA.grown hg1 BA.size (fun q hq => (O0.lt q hq).1)
      refine ⟨v1, w1, hr1, kept hw1, ?_⟩
      rw [t1]
      refine anyC_step _ I.r01 (by simp) (one_list ⟨n2, I.o2, h2, g2, _, _, I.run2 _ (by rw [eval_ne (Ne.symm d1x), eval_ne (Ne.symm d0x)]; exact ex) w1, kept (hw1.alloc hw1.size _), ?_⟩)
      rw [t2]
      simp only [Nat.zero_add, List.nil_append] at ho1
      exact last _ _ _ _ (ho1.alloc _) (src_new w1) (hw1.alloc hw1.size _)
    · -- or the one that is put in
      refine ⟨n2, I.o2, h2, g2, _, _, I.run2 _ (by rw [eval_ne (Ne.symm d0x)]; exact ex) _, kept (BA.alloc BA.size _), ?_⟩
      rw [t2]
      have BB := BA.alloc BA.size (.cells X.cells e)
      refine anyC_step _ I.r02 (by simp) (one_list ⟨n1, I.o1, h1, g1, ?_⟩)
      have E0 : ((a.put (some d0) (.slice (some ⟨W.drew.heap.size, 0, none⟩) 0 0)).put (some d2) (.slice (some ⟨(W.drew.alloc (.cells #[] e)).heap.size, 0, none⟩) 1 1)).eval (.tmp d0) = .slice (some ⟨W.drew.heap.size, 0, none⟩) 0 0 := by
        rw [eval_ne d02]; exact eval_at a0
      have E1 : ((a.put (some d0) (.slice (some ⟨W.drew.heap.size, 0, none⟩) 0 0)).put (some d2) (.slice (some ⟨(W.drew.alloc (.cells #[] e)).heap.size, 0, none⟩) 1 1)).eval (.tmp k1) = S1 := by
        rw [eval_ne (Ne.symm d2k1), eval_ne (Ne.symm d0k1)]; exact e1
      obtain ⟨v1, w1, hr1, ho1, hg1⟩ := exec_append T _ _ I.op1 E0 E1 (O0.alloc _) (s1.below BB) u1 (by omega) (by simpa using hm1) BB.size
      have hw1 : Below W.heap.size W w1 := BB.grown hg1 BB.size (fun q hq => (O0.lt q hq).1)
      refine ⟨v1, w1, hr1, kept hw1, ?_⟩
      rw [t1, Array.setIfInBounds_comm _ _ (Ne.symm i12), Act.put_comm _ _ _ (fun d hd => by cases hd; simpa using d12)]
      simp only [Nat.zero_add, List.nil_append] at ho1
      exact last _ _ _ _ ho1 ((src_new _).grown hg1 (fun ad n c hv => by cases hv; simp [Value.ownBlock])) hw1
  · -- the one that is put in first
    refine ⟨n2, I.o2, h2, g2, _, _, I.run2 a ex W.drew, kept (B0.alloc (by simp) _), ?_⟩
    rw [t2]
    have BA : Below W.heap.size W (W.drew.alloc (.cells X.cells e)) := B0.alloc (by simp) _
    refine anyC_step _ I.r2 (by simp) (one_list ⟨n0, I.o0, h0, g0, _, _, I.run0 _ _, kept (BA.alloc BA.size _), ?_⟩)
    rw [t0, Array.setIfInBounds_comm _ _ (Ne.symm i02), Act.put_comm _ _ _ (fun d hd => by cases hd; simpa using d02)]
    have BB := BA.alloc BA.size (.cells #[] e)
    have O0 : ((W.drew.alloc (.cells X.cells e)).alloc (.cells #[] e)).ownsRow W.heap.size e size (.slice (some ⟨(W.drew.alloc (.cells X.cells e)).heap.size, 0, none⟩) 0 0) 0 [] := World.ownsRow_made _ #[] 0 BA.size (Nat.zero_le _) (by simp)
    have S0 : Src ((W.drew.alloc (.cells X.cells e)).alloc (.cells #[] e)) (.slice (some ⟨W.drew.heap.size, 0, none⟩) 1 1) 1 size X.cells.toList := (src_new W.drew).below ((Below.refl _ _).alloc (Nat.le_refl _) _)
    refine anyC_step _ I.r02 (by simp) (one_list ⟨n1, I.o1, h1, g1, ?_⟩)
    have E0 : ((a.put (some d0) (.slice (some ⟨(W.drew.alloc (.cells X.cells e)).heap.size, 0, none⟩) 0 0)).put (some d2) (.slice (some ⟨W.drew.heap.size, 0, none⟩) 1 1)).eval (.tmp d0) = .slice (some ⟨(W.drew.alloc (.cells X.cells e)).heap.size, 0, none⟩) 0 0 := by
      rw [eval_ne d02]; exact eval_at a0
    have E1 : ((a.put (some d0) (.slice (some ⟨(W.drew.alloc (.cells X.cells e)).heap.size, 0, none⟩) 0 0)).put (some d2) (.slice (some ⟨W.drew.heap.size, 0, none⟩) 1 1)).eval (.tmp k1) = S1 := by
      rw [eval_ne (Ne.symm d2k1), eval_ne (Ne.symm d0k1)]; exact e1
    obtain ⟨v1, w1, hr1, ho1, hg1⟩ := exec_append T _ _ I.op1 E0 E1 O0 (s1.below BB) u1 (by omega) (by simpa using hm1) BB.size
    have hw1 : Below W.heap.size W w1 := BB.grown hg1 BB.size (fun q hq => (O0.lt q hq).1)
    refine ⟨v1, w1, hr1, kept hw1, ?_⟩
    rw [t1, Array.setIfInBounds_comm _ _ (Ne.symm i12), Act.put_comm _ _ _ (fun d hd => by cases hd; simpa using d12)]
    simp only [Nat.zero_add, List.nil_append] at ho1
    exact last _ _ _ _ ho1 (S0.grown hg1 (fun ad n c hv => by cases hv; simp [Value.ownBlock])) hw1
end
end Go.Proofs.YtigkkelaadbhcabGreat
