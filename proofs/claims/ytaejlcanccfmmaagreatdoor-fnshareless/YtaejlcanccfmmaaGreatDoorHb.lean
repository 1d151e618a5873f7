import Derived.Test.YtaejlcanccfmmaaGreatDoorHt
import Derived.Test.YtaejlcanccfmmaaGreatDoorM5
namespace Go.Proofs.YtaejlcanccfmmaaGreatDoor
open Go.RowKit Go.Sort
structure Gn where
  i : Nat
  d : Nat
  uses : List Nat
  F : World → Value → Prop
def offG (M : List Gn) (k : Nat) : Prop := ∀ m ∈ M, m.d ≠ k
structure AgreeG (M : List Gn) (b a0 : Act) : Prop where
  size : b.tmps.size = a0.tmps.size
  defers : b.defers = a0.defers
  off : ∀ k, offG M k → b.eval (.tmp k) = a0.eval (.tmp k)
def putG (a0 : Act) (M : List Gn) (v : Nat → Value) : Act := M.foldl (fun a m => a.put (some m.d) (v m.d)) a0
theorem putG_size (v : Nat → Value) : ∀ (M : List Gn) (a0 : Act), (putG a0 M v).tmps.size = a0.tmps.size ∧ (putG a0 M v).defers = a0.defers
  | [], a0 => ⟨rfl, rfl⟩
  | m :: M, a0 => by
    obtain ⟨h1, h2⟩ := putG_size v M (a0.put (some m.d) (v m.d))
    exact ⟨h1.trans (put_size _ _ _), h2⟩
theorem putG_off (v : Nat → Value) : ∀ (M : List Gn) (a0 : Act) (k : Nat), offG M k → (putG a0 M v).eval (.tmp k) = a0.eval (.tmp k)
  | [], a0, k, _ => rfl
  | m :: M, a0, k, h => by
    have h1 := putG_off v M (a0.put (some m.d) (v m.d)) k (fun x hx => h x (List.mem_cons_of_mem _ hx))
    exact h1.trans (eval_ne (Ne.symm (h m List.mem_cons_self)))
theorem putG_in (v : Nat → Value) : ∀ (M : List Gn) (a0 : Act) (k : Nat), k < a0.tmps.size → (∃ m ∈ M, m.d = k) → (putG a0 M v).eval (.tmp k) = v k
  | [], a0, k, _, h => by obtain ⟨m, hm, _⟩ := h; cases hm
  | m :: M, a0, k, hk, h => by
    by_cases hr : ∃ x ∈ M, x.d = k
    · exact putG_in v M (a0.put (some m.d) (v m.d)) k (by rw [put_size]; exact hk) hr
    · have hd : m.d = k := by
        obtain ⟨x, hx, e⟩ := h
        rcases List.mem_cons.1 hx with rfl | hx
        · exact e
        · exact absurd ⟨x, hx, e⟩ hr
      have h1 := putG_off v M (a0.put (some m.d) (v m.d)) k (fun x hx e => hr ⟨x, hx, e⟩)
      rw [hd] at h1
      refine Eq.trans ?_ (h1.trans (eval_at hk))
      show (putG (a0.put (some m.d) (v m.d)) M v).eval (.tmp k) = _
      rw [hd]
theorem act_extG {a b : Act} (hs : a.tmps.size = b.tmps.size) (hd : a.defers = b.defers) (h : ∀ k, a.eval (.tmp k) = b.eval (.tmp k)) : a = b := by
  obtain ⟨ta, da⟩ := a
  obtain ⟨tb, db⟩ := b
  simp only at hs hd
  subst hd
  congr 1
  apply Array.ext hs
  intro k h1 h2
  have := h k
  simpa [Act.eval, h1, h2] using this
theorem AgreeG.all {M : List Gn} {b a0 : Act} (h : AgreeG M b a0) (hd : ∀ m ∈ M, m.d < a0.tmps.size) : b = putG a0 M (fun k => b.eval (.tmp k)) := by
  obtain ⟨s1, s2⟩ := putG_size (fun k => b.eval (.tmp k)) M a0
  refine act_extG (h.size.trans s1.symm) (h.defers.trans s2.symm) (fun k => ?_)
  by_cases hk : ∃ m ∈ M, m.d = k
  · obtain ⟨m, hm, rfl⟩ := hk
    rw [putG_in _ M a0 m.d (hd m hm) ⟨m, hm, rfl⟩]
  · have ho : offG M k := fun m hm e => hk ⟨m, hm, e⟩
    rw [putG_off _ M a0 k ho, h.off k ho]
section
variable {P : Program} {md : Region.Mode} {ops : Array Oper}
def StepW (P : Program) (W : World) (a0 : Act) (M : List Gn) (nd : Gn) (o : Oper) : Prop :=
  ∀ (b : Act) (w : World), AgreeG M b a0 → Below W.heap.size W w → (∀ m ∈ M, m.i ∈ nd.uses → m.F w (b.eval (.tmp m.d))) →
    (∃ u w', (execOp b.eval o).run P w = .ok (.value u) w' ∧ nd.F w' u ∧ Below w.heap.size w w') ∨
    (∃ fn args, (execOp b.eval o).run P w = .ok (.enter fn args) w ∧ Calls P fn args w fun e w' => ∃ u, e = .returned u ∧ nd.F w' u ∧ Below w.heap.size w w')
def roomG (md : Region.Mode) (ops : Array Oper) (is : List (Nat × List Nat)) (fin : Array Bool) : Nat → Array Bool → Bool
  | 0, listed => decide (listed = fin)
  | f + 1, listed => !(Region.ready md ops listed).isEmpty && (Region.ready md ops listed).all fun i =>
      (is.any fun m => m.1 == i) && (is.all fun m => !(m.1 == i) || m.2.all fun u => listed.getD u false) && roomG md ops is fin f (listed.setIfInBounds i true)
theorem grow_any {C : World → Prop} {n : Nat} {L : Array Bool → Act → World → Prop} {W : World} {a0 : Act} {M : List Gn} {fin : Array Bool} (hop : ∀ m ∈ M, ∃ o, ops[m.i]? = some o ∧ o.guard = none ∧ o.dst = some m.d ∧ m.i < n ∧ StepW P W a0 M m o)
    (hst : ∀ m ∈ M, ∀ (w w' : World) (v : Value), Below w.heap.size w w' → m.F w v → m.F w' v) (hi : ∀ m ∈ M, ∀ m' ∈ M, m.i = m'.i → m = m') (hdd : ∀ m ∈ M, ∀ m' ∈ M, m.d = m'.d → m.i = m'.i) (hd : ∀ m ∈ M, m.d < a0.tmps.size) (hfin : ∀ m ∈ M, fin.getD m.i false = true)
    (hC : ∀ w, Below W.heap.size W w → C w)
    (K : ∀ (v : Nat → Value) (w : World), Below W.heap.size W w → (∀ m ∈ M, m.F w (v m.d)) → L fin (putG a0 M v) w) :
    ∀ (f : Nat) (listed : Array Bool) (a : Act) (w : World), roomG md ops (M.map fun m => (m.i, m.uses)) fin f listed = true → Below W.heap.size W w → AgreeG M a a0 →
      (∀ m ∈ M, listed.getD m.i false = true → m.F w (a.eval (.tmp m.d))) → anyH P md ops C n L f listed a w := by
  intro f
  induction f with
  | zero =>
    intro listed a w hr hb hA ho
    simp only [roomG, decide_eq_true_eq] at hr
    subst hr
    show L listed a w
    rw [hA.all hd]
    exact K _ w hb (fun m hm => ho m hm (hfin m hm))
  | succ f ih =>
    intro listed a w hr hb hA ho
    simp only [roomG, Bool.and_eq_true, Bool.not_eq_true', List.all_eq_true] at hr
    obtain ⟨hne, hall⟩ := hr
    refine ⟨fun e => by rw [e] at hne; simp at hne, fun i hready => ?_⟩
    obtain ⟨⟨hin, hus⟩, hnext⟩ := hall i hready
    obtain ⟨p, hp, hpi⟩ := List.any_eq_true.1 hin
    obtain ⟨nd, hnd, rfl⟩ := List.mem_map.1 hp
    have hni : nd.i = i := by simpa using hpi
    subst hni
    obtain ⟨o, h1, h2, h3, h4, hstep⟩ := hop nd hnd
    have hw : Region.wanted o (yielded ops a.tmps) = true := wanted_none h2 _
    have hu : ∀ m ∈ M, m.i ∈ nd.uses → m.F w (a.eval (.tmp m.d)) := fun m hm hmu => by
      have h5 := hus _ hp
      simp only [Bool.or_eq_true, Bool.not_eq_true', beq_eq_false_iff_ne, ne_eq, List.all_eq_true] at h5
      rcases h5 with h5 | h5
      · exact absurd trivial h5
      · exact ho m hm (h5 m.i hmu)
    have next : ∀ u w', nd.F w' u → Below w.heap.size w w' → C w' ∧ anyH P md ops C n L f (listed.setIfInBounds nd.i true) (a.put o.dst u) w' := fun u w' hF hbw => by
      have hb' : Below W.heap.size W w' := hb.trans (hbw.mono hb.size)
      refine ⟨hC w' hb', ?_⟩
      rw [h3]
      refine ih _ _ _ hnext hb' ⟨(put_size _ _ _).trans hA.size, hA.defers, fun k hk => (eval_ne (Ne.symm (hk nd hnd))).trans (hA.off k hk)⟩ (fun m hm hl => ?_)
      by_cases e : m = nd
      · subst e
        rw [eval_at (by rw [hA.size]; exact hd m hm)]
        exact hF
      · have hne' : m.i ≠ nd.i := fun h => e (hi m hm nd hnd h)
        rw [show (a.put (some nd.d) u).eval (.tmp m.d) = a.eval (.tmp m.d) from eval_ne (fun h => hne' (hdd m hm nd hnd h))]
        rw [getD_set_ne false (Ne.symm hne')] at hl
        exact hst m hm w w' _ hbw (ho m hm hl)
    refine ⟨h4, ?_⟩
    rcases hstep a w hA hb hu with ⟨u, w', hrun, hF, hbw⟩ | ⟨fn, args, hrun, hcall⟩
    · exact ⟨o, h1, .inl ⟨hw, u, w', hrun, next u w' hF hbw⟩⟩
    · exact ⟨o, h1, .inr (.inl ⟨hw, fn, args, hrun, hcall.mono fun e w' ⟨u, he, hF, hbw⟩ => ⟨u, he, next u w' hF hbw⟩⟩)⟩
end
section
variable {P : Program}
theorem off_of {M : List Gn} (k : Nat) (h : (M.map fun m => m.d).all (fun d => decide (d ≠ k)) = true) : offG M k := fun m hm => by
  have := List.all_eq_true.1 h m.d (List.mem_map.2 ⟨m, hm, rfl⟩)
  simpa using this
def finG (M : List Gn) (listed : Array Bool) : Array Bool := M.foldl (fun l m => l.setIfInBounds m.i true) listed
def finI (is : List (Nat × Nat × List Nat)) (listed : Array Bool) : Array Bool := is.foldl (fun l m => l.setIfInBounds m.1 true) listed
theorem finG_eq (M : List Gn) (listed : Array Bool) : finG M listed = finI (M.map fun m => (m.i, m.d, m.uses)) listed := by
  unfold finG finI
  rw [List.foldl_map]
def growB (l : List Oper) (is : List (Nat × Nat × List Nat)) (n f : Nat) (listed : Array Bool) : Bool :=
  roomG .any l.toArray (is.map fun m => (m.1, m.2.2)) (finI is listed) f listed &&
  is.all (fun m => !listed.getD m.1 false && (finI is listed).getD m.1 false && decide (m.1 < n) && (match l[m.1]? with | some o => o.guard.isNone && decide (o.dst = some m.2.1) | none => false)) &&
  decide ((is.map fun m => m.1).Nodup) && decide ((is.map fun m => m.2.1).Nodup)
theorem nodup_inj {α : Type} {f : α → Nat} : ∀ {l : List α}, (l.map f).Nodup → ∀ x ∈ l, ∀ y ∈ l, f x = f y → x = y
  | [], _, x, hx, _, _, _ => by cases hx
  | z :: l, h, x, hx, y, hy, e => by
    rw [List.map_cons, List.nodup_cons] at h
    rcases List.mem_cons.1 hx with rfl | hx' <;> rcases List.mem_cons.1 hy with rfl | hy'
    · rfl
    · exact absurd (e ▸ List.mem_map.2 ⟨y, hy', rfl⟩) h.1
    · exact absurd (e ▸ List.mem_map.2 ⟨x, hx', rfl⟩) h.1
    · exact nodup_inj h.2 x hx' y hy' e
theorem grow_all {C : World → Prop} {n f : Nat} {L : Array Bool → Act → World → Prop} {W : World} {a : Act} {listed : Array Bool} {l : List Oper} (M : List Gn) (hB : growB l (M.map fun m => (m.i, m.d, m.uses)) n f listed = true) (hsz : (M.map fun m => m.d).all (fun d => decide (d < a.tmps.size)) = true)
    (hst : ∀ m ∈ M, ∀ (w w' : World) (v : Value), Below w.heap.size w w' → m.F w v → m.F w' v) (hS : ∀ m ∈ M, ∃ o, l.toArray[m.i]? = some o ∧ StepW P W a M m o) (hC : ∀ w, Below W.heap.size W w → C w)
    (K : ∀ (v : Nat → Value) (w : World), Below W.heap.size W w → (∀ m ∈ M, m.F w (v m.d)) → L (finG M listed) (putG a M v) w) : anyH P .any l.toArray C n L f listed a W := by
  simp only [growB, Bool.and_eq_true, decide_eq_true_eq] at hB
  obtain ⟨⟨⟨h1, h2⟩, h3⟩, h4⟩ := hB
  rw [← finG_eq, List.map_map] at h1
  rw [List.map_map] at h3 h4
  have at_ : ∀ m ∈ M, listed.getD m.i false = false ∧ (finG M listed).getD m.i false = true ∧ m.i < n ∧ ∃ o, l[m.i]? = some o ∧ o.guard = none ∧ o.dst = some m.d := fun m hm => by
    have h5 := List.all_eq_true.1 h2 _ (List.mem_map.2 ⟨m, hm, rfl⟩)
    simp only [Bool.and_eq_true, Bool.not_eq_true', decide_eq_true_eq] at h5
    obtain ⟨⟨⟨q1, q2⟩, q3⟩, q4⟩ := h5
    rw [← finG_eq] at q2
    refine ⟨q1, q2, q3, ?_⟩
    cases ho : l[m.i]? with
    | none => rw [ho] at q4; cases q4
    | some o =>
      rw [ho] at q4
      simp only [Bool.and_eq_true, Option.isNone_iff_eq_none, decide_eq_true_eq] at q4
      exact ⟨o, rfl, q4⟩
  refine grow_any (P := P) (md := .any) (ops := l.toArray) (C := C) (n := n) (L := L) (W := W) (a0 := a) (M := M) (fin := finG M listed) (fun m hm => ?_) hst (fun m hm m' hm' e => nodup_inj h3 m hm m' hm' e) (fun m hm m' hm' e => by rw [nodup_inj h4 m hm m' hm' e]) (fun m hm => ?_) (fun m hm => (at_ m hm).2.1) hC K f listed a W h1 (Below.refl _ _) ⟨rfl, rfl, fun _ _ => rfl⟩ (fun m hm hl => by rw [(at_ m hm).1] at hl; cases hl)
  · obtain ⟨_, _, q3, o, q4, q5, q6⟩ := at_ m hm
    have e : l.toArray[m.i]? = some o := by simpa using q4
    obtain ⟨o', e', st⟩ := hS m hm
    obtain rfl := Option.some.inj (e.symm.trans e')
    exact ⟨o, e, q5, q6, q3, st⟩
  · have := List.all_eq_true.1 hsz m.d (List.mem_map.2 ⟨m, hm, rfl⟩)
    simpa using this
end
end Go.Proofs.YtaejlcanccfmmaaGreatDoor
