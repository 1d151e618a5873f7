/-
  Several texts in one.
-/
import Derived.Test.YtffmfomonmhkcaaGreatM21
import Derived.Test.YtffmfomonmhkcaaGreatM20
/-
  A law on a region that draws its order: operations that only make new memory, calls among them, in whatever order; what is known of an operation's value may speak of the values that it waits for. No program is named here.
-/
namespace Go.Proofs.YtffmfomonmhkcaaGreat
open Go.RowKit Go.Sort

/-- An operation: its place, its destination, whom it waits for, what is known of its value beside theirs. -/
structure Gv where
  i : Nat
  d : Nat
  uses : List Nat
  F : World → (Nat → Value) → Prop
def Gv.g (m : Gv) : Gn := ⟨m.i, m.d, m.uses, fun _ _ => True⟩
def vals (a : Act) (k : Nat) : Value := a.eval (.tmp k)
def updV (f : Nat → Value) (d : Nat) (u : Value) (k : Nat) : Value := if k = d then u else f k

section
variable {P : Program} {md : Region.Mode} {ops : Array Oper}
def StepV (P : Program) (W : World) (a0 : Act) (M : List Gv) (nd : Gv) (o : Oper) : Prop :=
  ∀ (b : Act) (w : World), AgreeG (M.map Gv.g) b a0 → Below W.heap.size W w → (∀ m ∈ M, m.i ∈ nd.uses → m.F w (vals b)) →
    (∃ u w', (execOp b.eval o).run P w = .ok (.value u) w' ∧ nd.F w' (updV (vals b) nd.d u) ∧ Below w.heap.size w w') ∨
    (∃ fn args, (execOp b.eval o).run P w = .ok (.enter fn args) w ∧ Calls P fn args w fun e w' => ∃ u, e = .returned u ∧ nd.F w' (updV (vals b) nd.d u) ∧ Below w.heap.size w w')
/-- What a node's fact speaks of: its own value, and those that it waits for. -/
def SeesV (M : List Gv) (m : Gv) : Prop := ∀ (w w' : World) (f f' : Nat → Value), Below w.heap.size w w' → f' m.d = f m.d → (∀ m' ∈ M, m'.i ∈ m.uses → f' m'.d = f m'.d) → m.F w f → m.F w' f'

theorem growV_any {C : World → Prop} {n : Nat} {L : Array Bool → Act → World → Prop} {W : World} {a0 : Act} {M : List Gv} {fin : Array Bool} (hop : ∀ m ∈ M, ∃ o, ops[m.i]? = some o ∧ o.guard = none ∧ o.dst = some m.d ∧ m.i < n ∧ StepV P W a0 M m o)
    (hst : ∀ m ∈ M, SeesV M m) (hi : ∀ m ∈ M, ∀ m' ∈ M, m.i = m'.i → m = m') (hdd : ∀ m ∈ M, ∀ m' ∈ M, m.d = m'.d → m.i = m'.i) (hd : ∀ m ∈ M, m.d < a0.tmps.size) (hfin : ∀ m ∈ M, fin.getD m.i false = true)
    (hC : ∀ w, Below W.heap.size W w → C w)
    (K : ∀ (v : Nat → Value) (w : World), Below W.heap.size W w → (∀ m ∈ M, m.F w v) → L fin (putG a0 (M.map Gv.g) v) w) :
    ∀ (f : Nat) (listed : Array Bool) (a : Act) (w : World), roomG md ops (M.map fun m => (m.i, m.uses)) fin f listed = true → Below W.heap.size W w → AgreeG (M.map Gv.g) a a0 →
      (∀ m ∈ M, listed.getD m.i false = true → m.F w (vals a) ∧ ∀ u ∈ m.uses, listed.getD u false = true) → anyH P md ops C n L f listed a w := by
  intro f
  induction f with
  | zero =>
    intro listed a w hr hb hA ho
    simp only [roomG, decide_eq_true_eq] at hr
    subst hr
    show L listed a w
    rw [hA.all (fun m hm => by obtain ⟨m', hm', rfl⟩ := List.mem_map.1 hm; exact hd m' hm')]
    exact K _ w hb (fun m hm => (ho m hm (hfin m hm)).1)
  | succ f ih =>
    intro listed a w hr hb hA ho
    simp only [roomG, Bool.and_eq_true, Bool.not_eq_true', List.all_eq_true] at hr
    obtain ⟨hne, hall⟩ := hr
    refine ⟨fun e => by rw [e] at hne; simp at hne, fun i hready => ?_⟩
    obtain ⟨⟨hin, hus⟩, hnext⟩ := hall i hready
    obtain ⟨p, hp, hpi⟩ := List.any_eq_true.1 hin
    obtain ⟨nd, hnd, rfl⟩ := List.mem_map.1 hp
    have hni : nd.i = i := by simpa using hpi
    subst hni
    have hnl : listed.getD nd.i false = false := by
      have h := (mem_ready.1 hready).1
      by_cases hj : nd.i < listed.size
      · simpa [Array.getD, hj] using h
      · simp [Array.getD, hj] at h
    obtain ⟨o, h1, h2, h3, h4, hstep⟩ := hop nd hnd
    have hw : Region.wanted o (yielded ops a.tmps) = true := wanted_none h2 _
    have hul : ∀ u ∈ nd.uses, listed.getD u false = true := fun u hu => by
      have h5 := hus _ hp
      simp only [Bool.or_eq_true, Bool.not_eq_true', beq_eq_false_iff_ne, ne_eq, List.all_eq_true] at h5
      rcases h5 with h5 | h5
      · exact absurd trivial h5
      · exact h5 u hu
    have hu : ∀ m ∈ M, m.i ∈ nd.uses → m.F w (vals a) := fun m hm hmu => (ho m hm (hul _ hmu)).1
    have next : ∀ u w', nd.F w' (updV (vals a) nd.d u) → Below w.heap.size w w' → C w' ∧ anyH P md ops C n L f (listed.setIfInBounds nd.i true) (a.put o.dst u) w' := fun u w' hF hbw => by
      have hb' : Below W.heap.size W w' := hb.trans (hbw.mono hb.size)
      refine ⟨hC w' hb', ?_⟩
      rw [h3]
      have hg : nd.g ∈ M.map Gv.g := List.mem_map.2 ⟨nd, hnd, rfl⟩
      have ev : vals (a.put (some nd.d) u) = updV (vals a) nd.d u := by
        funext k
        unfold vals updV
        by_cases e : k = nd.d
        · rw [if_pos e, e]; exact eval_at (by rw [hA.size]; exact hd nd hnd)
        · rw [if_neg e]; exact eval_ne e
      refine ih _ _ _ hnext hb' ⟨(put_size _ _ _).trans hA.size, hA.defers, fun k hk => (eval_ne (Ne.symm (hk nd.g hg))).trans (hA.off k hk)⟩ (fun m hm hl => ?_)
      rw [ev]
      by_cases e : m = nd
      · subst e
        refine ⟨hF, fun u' hu' => ?_⟩
        by_cases e2 : u' = m.i
        · subst e2; exact hl
        · rw [getD_set_ne false (Ne.symm e2)]; exact hul u' hu'
      · have hne' : m.i ≠ nd.i := fun h => e (hi m hm nd hnd h)
        rw [getD_set_ne false (Ne.symm hne')] at hl
        obtain ⟨q1, q2⟩ := ho m hm hl
        have hdn : ∀ m' ∈ M, listed.getD m'.i false = true → updV (vals a) nd.d u m'.d = vals a m'.d := fun m' hm' hl' => by
          unfold updV
          rw [if_neg]
          intro h
          have := hdd m' hm' nd hnd h
          rw [this, hnl] at hl'; cases hl'
        refine ⟨hst m hm w w' _ _ hbw (hdn m hm hl) (fun m' hm' hu' => hdn m' hm' (q2 _ hu')) q1, fun u' hu' => ?_⟩
        have h6 := q2 u' hu'
        by_cases e2 : u' = nd.i
        · subst e2; rw [hnl] at h6; cases h6
        · rw [getD_set_ne false (Ne.symm e2)]; exact h6
    refine ⟨h4, ?_⟩
    rcases hstep a w hA hb hu with ⟨u, w', hrun, hF, hbw⟩ | ⟨fn, args, hrun, hcall⟩
    · exact ⟨o, h1, .inl ⟨hw, u, w', hrun, next u w' hF hbw⟩⟩
    · exact ⟨o, h1, .inr (.inl ⟨hw, fn, args, hrun, hcall.mono fun e w' ⟨u, he, hF, hbw⟩ => ⟨u, he, next u w' hF hbw⟩⟩)⟩
end

section
variable {P : Program}
theorem growV_all {C : World → Prop} {n f : Nat} {L : Array Bool → Act → World → Prop} {W : World} {a : Act} {listed : Array Bool} {l : List Oper} (M : List Gv) (hB : growB l (M.map fun m => (m.i, m.d, m.uses)) n f listed = true) (hsz : (M.map fun m => m.d).all (fun d => decide (d < a.tmps.size)) = true)
    (hst : ∀ m ∈ M, SeesV M m) (hS : ∀ m ∈ M, ∃ o, l.toArray[m.i]? = some o ∧ StepV P W a M m o) (hC : ∀ w, Below W.heap.size W w → C w)
    (K : ∀ (v : Nat → Value) (w : World), Below W.heap.size W w → (∀ m ∈ M, m.F w v) → L (finG (M.map Gv.g) listed) (putG a (M.map Gv.g) v) w) : anyH P .any l.toArray C n L f listed a W := by
  simp only [growB, Bool.and_eq_true, decide_eq_true_eq] at hB
  obtain ⟨⟨⟨h1, h2⟩, h3⟩, h4⟩ := hB
  have ef : finI (M.map fun m => (m.i, m.d, m.uses)) listed = finG (M.map Gv.g) listed := by
    rw [finG_eq, List.map_map]; rfl
  rw [ef] at h1 h2
  rw [List.map_map] at h1
  rw [List.map_map] at h3 h4
  have at_ : ∀ m ∈ M, listed.getD m.i false = false ∧ (finG (M.map Gv.g) listed).getD m.i false = true ∧ m.i < n ∧ ∃ o, l[m.i]? = some o ∧ o.guard = none ∧ o.dst = some m.d := fun m hm => by
    have h5 := List.all_eq_true.1 h2 _ (List.mem_map.2 ⟨m, hm, rfl⟩)
    simp only [Bool.and_eq_true, Bool.not_eq_true', decide_eq_true_eq] at h5
    obtain ⟨⟨⟨q1, q2⟩, q3⟩, q4⟩ := h5
    refine ⟨q1, q2, q3, ?_⟩
    cases ho : l[m.i]? with
    | none => rw [ho] at q4; cases q4
    | some o =>
      rw [ho] at q4
      simp only [Bool.and_eq_true, Option.isNone_iff_eq_none, decide_eq_true_eq] at q4
      exact ⟨o, rfl, q4⟩
  refine growV_any (P := P) (md := .any) (ops := l.toArray) (C := C) (n := n) (L := L) (W := W) (a0 := a) (M := M) (fin := finG (M.map Gv.g) listed) (fun m hm => ?_) hst (fun m hm m' hm' e => nodup_inj h3 m hm m' hm' e) (fun m hm m' hm' e => by rw [nodup_inj h4 m hm m' hm' e]) (fun m hm => ?_) (fun m hm => (at_ m hm).2.1) hC K f listed a W h1 (Below.refl _ _) ⟨rfl, rfl, fun _ _ => rfl⟩ (fun m hm hl => by rw [(at_ m hm).1] at hl; cases hl)
  · obtain ⟨_, _, q3, o, q4, q5, q6⟩ := at_ m hm
    have e : l.toArray[m.i]? = some o := by simpa using q4
    obtain ⟨o', e', st⟩ := hS m hm
    obtain rfl := Option.some.inj (e.symm.trans e')
    exact ⟨o, e, q5, q6, q3, st⟩
  · have := List.all_eq_true.1 hsz m.d (List.mem_map.2 ⟨m, hm, rfl⟩)
    simpa using this
end
end Go.Proofs.YtffmfomonmhkcaaGreat

/-
  Laws on a region that draws its order, step by step, in a class of worlds: operations that are not wanted. No program is named here.
-/
namespace Go.Proofs.YtffmfomonmhkcaaGreat
open Go.Sort

section
variable {P : Program}
theorem takeHX {C : World → Prop} {Q : Exit → Act → World → Prop} {l : List Oper} {n f : Nat} {listed : Array Bool} {i d : Nat} {oi : Oper} {a : Act} {w : World} (hi : l.toArray[i]? = some oi ∧ oi.dst = some d) (hB : takeB l n listed i = true) (hw : Region.wanted oi (yielded l.toArray a.tmps) = false) (hC : C w)
    (h : anyH P .any l.toArray C n (tailC P Q l n) f (listed.setIfInBounds i true) (a.put (some d) undef) w) : anyH P .any l.toArray C n (tailC P Q l n) (f + 1) listed a w := by
  obtain ⟨h1, h2⟩ := hi
  simp only [takeB, Bool.and_eq_true, decide_eq_true_eq] at hB
  obtain ⟨⟨⟨⟨⟨⟨⟨hsel, hn⟩, hin⟩, hs⟩, hc⟩, hr⟩, hf⟩, hv⟩ := hB
  have hr' : i ∈ Region.ready .any l.toArray listed := by simpa using hr
  refine anyH_first h1 hsel hs hc (by simpa using hn) hin (fun listed a w hL => seqB_ready hL.1) f listed a w hC (inv_of hv) (fun k hk => by rw [getD_replicate_false] at hk; cases hk) (Region.free_spec h1 hf) hr' (.inr ⟨hw, rfl⟩) ?_
  rw [h2]; exact h
end
end Go.Proofs.YtffmfomonmhkcaaGreat
