/-
  The model's groups, as plain functions: round by round one valve further; they hold just what can be come to, and ascend. Why a list that ascends is known by what it holds. No program is named here.
-/
import Derived.Test.YtbdhlcfcmennjacGreatRw
import Derived.Test.YtbdhlcfcmennjacGreatRo
namespace Go.Proofs.YtbdhlcfcmennjacGreat
open Go.RowKit

/-- Names that ascend, as a list. -/
def AscL (l : List ByteArray) : Prop := l.Pairwise fun a b => ltB a b = true
theorem AscL.nodup {l : List ByteArray} (h : AscL l) : l.Nodup := by
  refine h.imp fun {a b} hab e => ?_
  rw [e, ltB_irrefl] at hab; cases hab
theorem ltB_tri {a b : ByteArray} (h1 : ltB a b = false) (h2 : eqB a b = false) : ltB b a = true := by
  rw [ltB_iff]
  have n1 : ¬ a.toList < b.toList := fun h => by rw [(ltB_iff _ _).2 h] at h1; cases h1
  have n2 : a.toList ≠ b.toList := fun h => by
    have : eqB a b = true := by unfold eqB; rw [h]; simp
    rw [this] at h2; cases h2
  rcases List.le_iff_lt_or_eq.1 (List.not_lt.1 n1) with h | h
  · exact h
  · exact absurd h.symm n2
theorem ins_mem : ∀ (l : List ByteArray) (x y : ByteArray), y ∈ insR l x ↔ y ∈ l ∨ y = x
  | [], x, y => by simp [insR]
  | z :: l, x, y => by
    have ih := ins_mem l x y
    unfold insR
    cases h1 : ltB z x
    · cases h2 : eqB z x
      · simp only [cond_false, List.mem_cons]
        constructor
        · rintro (h | h | h)
          · exact .inr h
          · exact .inl (.inl h)
          · exact .inl (.inr h)
        · rintro ((h | h) | h)
          · exact .inr (.inl h)
          · exact .inr (.inr h)
          · exact .inl h
      · simp only [cond_false, cond_true, List.mem_cons]
        have := (eqB_iff _ _).1 h2
        constructor
        · exact .inl
        · rintro (h | h)
          · exact h
          · exact .inl (by rw [h, this])
    · simp only [cond_true, List.mem_cons, ih, or_assoc]
theorem ins_asc : ∀ (l : List ByteArray) (x : ByteArray), AscL l → AscL (insR l x)
  | [], x, _ => List.pairwise_singleton _ _
  | z :: l, x, h => by
    obtain ⟨hz, hl⟩ := List.pairwise_cons.1 h
    have ih := ins_asc l x hl
    unfold insR
    cases h1 : ltB z x
    · cases h2 : eqB z x
      · simp only [cond_false]
        have hxz := ltB_tri h1 h2
        refine List.pairwise_cons.2 ⟨fun y hy => ?_, h⟩
        rcases List.mem_cons.1 hy with rfl | hy
        · exact hxz
        · exact ltB_trans hxz (hz y hy)
      · exact h
    · simp only [cond_true]
      refine List.pairwise_cons.2 ⟨fun y hy => ?_, ih⟩
      rcases (ins_mem _ _ _).1 hy with hy | rfl
      · exact hz y hy
      · exact h1
theorem asc_unique : ∀ (l m : List ByteArray), AscL l → AscL m → (∀ y, y ∈ l ↔ y ∈ m) → l = m
  | [], [], _, _, _ => rfl
  | [], b :: m, _, _, h => absurd ((h b).2 List.mem_cons_self) (by simp)
  | a :: l, [], _, _, h => absurd ((h a).1 List.mem_cons_self) (by simp)
  | a :: l, b :: m, hl, hm, h => by
    obtain ⟨ha, hl'⟩ := List.pairwise_cons.1 hl
    obtain ⟨hb, hm'⟩ := List.pairwise_cons.1 hm
    have e : a = b := by
      rcases List.mem_cons.1 ((h a).1 List.mem_cons_self) with e | h1
      · exact e
      · rcases List.mem_cons.1 ((h b).2 List.mem_cons_self) with e | h2
        · exact e.symm
        · have := ltB_asymm (hb a h1)
          rw [ha b h2] at this; cases this
    subst e
    have na : a ∉ l := (List.nodup_cons.1 (AscL.nodup hl)).1
    have nb : a ∉ m := (List.nodup_cons.1 (AscL.nodup hm)).1
    rw [asc_unique l m hl' hm' (fun y => ?_)]
    have := h y
    simp only [List.mem_cons] at this
    constructor
    · intro hy
      rcases this.1 (.inr hy) with e | h'
      · rw [e] at hy; exact absurd hy na
      · exact h'
    · intro hy
      rcases this.2 (.inr hy) with e | h'
      · rw [e] at hy; exact absurd hy nb
      · exact h'

def inL (o : List ByteArray) (y : ByteArray) : Bool := o.any fun z => eqB z y
theorem inL_iff (o : List ByteArray) (y : ByteArray) : inL o y = true ↔ y ∈ o := any_mem o y

section
variable (f : Nat → ByteArray × ByteArray × ByteArray × ByteArray) (no : Nat) (fo : Nat → ByteArray)

/-- Does a valve lead on from what is there? -/
def onB (o : List ByteArray) (i : Nat) : Bool := hasB no fo (f i).1 && (inL o (f i).2.1 != inL o (f i).2.2.1)
def stepV (o : List ByteArray) (i : Nat) : List ByteArray := bif onB f no fo o i then insR (insR o (f i).2.1) (f i).2.2.1 else o
def ro (k : Nat) (o : List ByteArray) : List ByteArray := (List.range k).foldl (stepV f no fo) o
theorem ro_succ (k : Nat) (o : List ByteArray) : ro f no fo (k + 1) o = stepV f no fo (ro f no fo k o) k := by
  simp [ro, List.range_succ, List.foldl_append]
def itG (nv : Nat) : Nat → List ByteArray → List ByteArray
  | 0, o => o
  | n + 1, o => ro f no fo nv (itG nv n o)

theorem mem_nx (nv : Nat) (y z : ByteArray) : z ∈ nx (opN f no fo nv).length (nthV (opN f no fo nv)) y ↔ ∃ i, i < nv ∧ hasB no fo (f i).1 = true ∧ endB (f i) y = true ∧ behS (f i) y = z := by
  have hop : ∀ g, g ∈ opN f no fo nv ↔ ∃ i, i < nv ∧ hasB no fo (f i).1 = true ∧ f i = g := by
    intro g
    unfold opN
    rw [List.mem_map]
    constructor
    · rintro ⟨i, hi, e⟩
      obtain ⟨h1, h2⟩ := List.mem_filter.1 hi
      exact ⟨i, List.mem_range.1 h1, h2, e⟩
    · rintro ⟨i, h1, h2, e⟩
      exact ⟨i, List.mem_filter.2 ⟨List.mem_range.2 h1, h2⟩, e⟩
  unfold nx
  rw [List.mem_map]
  constructor
  · rintro ⟨j, hj, e⟩
    obtain ⟨h1, h2⟩ := List.mem_filter.1 hj
    have hj' := List.mem_range.1 h1
    have hm : nthV (opN f no fo nv) j ∈ opN f no fo nv := List.mem_of_getElem? (i := j) (by simp [nthV, hj'])
    obtain ⟨i, a, b, c⟩ := (hop _).1 hm
    rw [← c] at h2 e
    exact ⟨i, a, b, h2, e⟩
  · rintro ⟨i, a, b, c, d⟩
    obtain ⟨j, hj, e⟩ := List.mem_iff_getElem.1 ((hop (f i)).2 ⟨i, a, b, rfl⟩)
    have en : nthV (opN f no fo nv) j = f i := by simp [nthV, hj, e]
    exact ⟨j, List.mem_filter.2 ⟨List.mem_range.2 hj, by rw [en]; exact c⟩, by rw [en]; exact d⟩

/-- What the model keeps to. -/
structure InvG (nv : Nat) (x : ByteArray) (o : List ByteArray) : Prop where
  asc : AscL o
  here : x ∈ o
  only : ∀ y ∈ o, Rch (opN f no fo nv).length (nthV (opN f no fo nv)) x y
variable {f no fo}
theorem InvG.step {nv : Nat} {x : ByteArray} {o : List ByteArray} (h : InvG f no fo nv x o) {i : Nat} (hi : i < nv) : InvG f no fo nv x (stepV f no fo o i) ∧ ((onB f no fo o i = false ∧ stepV f no fo o i = o) ∨ o.length + 1 ≤ (stepV f no fo o i).length) := by
  cases hc : onB f no fo o i
  · have e : stepV f no fo o i = o := by unfold stepV; rw [hc]; rfl
    rw [e]; exact ⟨h, .inl ⟨rfl, rfl⟩⟩
  · have e : stepV f no fo o i = insR (insR o (f i).2.1) (f i).2.2.1 := by unfold stepV; rw [hc]; rfl
    rw [e]
    have hc' := hc
    unfold onB at hc'
    rw [Bool.and_eq_true] at hc'
    obtain ⟨hs, hx⟩ := hc'
    have hasc := ins_asc _ (f i).2.2.1 (ins_asc _ (f i).2.1 h.asc)
    have hmem : ∀ y, y ∈ insR (insR o (f i).2.1) (f i).2.2.1 ↔ (y ∈ o ∨ y = (f i).2.1) ∨ y = (f i).2.2.1 := fun y => by rw [ins_mem, ins_mem]
    cases hA : inL o (f i).2.1
    · have hBt : inL o (f i).2.2.1 = true := by rw [hA] at hx; cases hq : inL o (f i).2.2.1 <;> simp [hq] at hx ⊢
      have hB := (inL_iff _ _).1 hBt
      have nA : (f i).2.1 ∉ o := fun hh => by rw [(inL_iff _ _).2 hh] at hA; cases hA
      have hne : eqB (f i).2.2.1 (f i).2.1 = false := by
        cases hq : eqB (f i).2.2.1 (f i).2.1
        · rfl
        · exact absurd (by rw [← (eqB_iff _ _).1 hq]; exact hB) nA
      have hr : Rch (opN f no fo nv).length (nthV (opN f no fo nv)) x (f i).2.1 := .step (h.only _ hB) ((mem_nx f no fo nv _ _).2 ⟨i, hi, hs, by unfold endB; rw [eqB_refl, Bool.or_true], by unfold behS; rw [hne, eqB_refl]; rfl⟩)
      refine ⟨⟨hasc, (hmem _).2 (.inl (.inl h.here)), fun y hy => ?_⟩, .inr ?_⟩
      · rcases (hmem y).1 hy with (hy | rfl) | rfl
        · exact h.only y hy
        · exact hr
        · exact h.only _ hB
      · have := nodup_le ((f i).2.1 :: o) _ (List.nodup_cons.2 ⟨nA, h.asc.nodup⟩) (fun y hy => by
          rcases List.mem_cons.1 hy with rfl | hy
          · exact (hmem _).2 (.inl (.inr rfl))
          · exact (hmem _).2 (.inl (.inl hy)))
        simpa using this
    · have hBf : inL o (f i).2.2.1 = false := by rw [hA] at hx; cases hq : inL o (f i).2.2.1 <;> simp [hq] at hx ⊢
      have hA' := (inL_iff _ _).1 hA
      have nB : (f i).2.2.1 ∉ o := fun hh => by rw [(inL_iff _ _).2 hh] at hBf; cases hBf
      have hr : Rch (opN f no fo nv).length (nthV (opN f no fo nv)) x (f i).2.2.1 := .step (h.only _ hA') ((mem_nx f no fo nv _ _).2 ⟨i, hi, hs, by unfold endB; rw [eqB_refl, Bool.true_or], by unfold behS; rw [eqB_refl]; rfl⟩)
      refine ⟨⟨hasc, (hmem _).2 (.inl (.inl h.here)), fun y hy => ?_⟩, .inr ?_⟩
      · rcases (hmem y).1 hy with (hy | rfl) | rfl
        · exact h.only y hy
        · exact h.only _ hA'
        · exact hr
      · have := nodup_le ((f i).2.2.1 :: o) _ (List.nodup_cons.2 ⟨nB, h.asc.nodup⟩) (fun y hy => by
          rcases List.mem_cons.1 hy with rfl | hy
          · exact (hmem _).2 (.inr rfl)
          · exact (hmem _).2 (.inl (.inl hy)))
        simpa using this
theorem InvG.rounds {nv : Nat} {x : ByteArray} {o : List ByteArray} (h : InvG f no fo nv x o) : ∀ k, k ≤ nv → InvG f no fo nv x (ro f no fo k o) ∧ (((∀ i, i < k → onB f no fo o i = false) ∧ ro f no fo k o = o) ∨ o.length + 1 ≤ (ro f no fo k o).length)
  | 0, _ => ⟨h, .inl ⟨fun i hi => by omega, rfl⟩⟩
  | k + 1, hk => by
    obtain ⟨h1, h2⟩ := InvG.rounds h k (by omega)
    obtain ⟨h3, h4⟩ := h1.step (i := k) (by omega)
    rw [ro_succ]
    refine ⟨h3, ?_⟩
    rcases h2 with ⟨ha, he⟩ | h2
    · rw [he] at h4 ⊢
      rcases h4 with ⟨hc, hs⟩ | h4
      · refine .inl ⟨fun i hi => ?_, hs⟩
        by_cases e : i = k
        · subst e; exact hc
        · exact ha i (by omega)
      · exact .inr h4
    · rcases h4 with ⟨_, hs⟩ | h4
      · rw [hs]; exact .inr h2
      · exact .inr (by omega)
theorem InvG.iter {nv : Nat} {x : ByteArray} {o : List ByteArray} (h : InvG f no fo nv x o) : ∀ n, InvG f no fo nv x (itG f no fo nv n o) ∧ ((∀ i, i < nv → onB f no fo (itG f no fo nv n o) i = false) ∨ o.length + n ≤ (itG f no fo nv n o).length)
  | 0 => ⟨h, .inr (by simp [itG])⟩
  | n + 1 => by
    obtain ⟨h1, h2⟩ := InvG.iter h n
    obtain ⟨h3, h4⟩ := h1.rounds nv (Nat.le_refl _)
    refine ⟨h3, ?_⟩
    show (∀ i, i < nv → onB f no fo (ro f no fo nv (itG f no fo nv n o)) i = false) ∨ _
    rcases h4 with ⟨ha, he⟩ | h4
    · rw [he]; exact .inl ha
    · rcases h2 with h2 | h2
      · rcases (h1.rounds nv (Nat.le_refl _)).2 with ⟨ha, he⟩ | h5
        · rw [he]; exact .inl ha
        · refine .inr ?_
          exfalso
          -- nothing leads on, so a round changes nothing
          have : ∀ k, k ≤ nv → ro f no fo k (itG f no fo nv n o) = itG f no fo nv n o := by
            intro k
            induction k with
            | zero => intro _; rfl
            | succ k ih =>
              intro hk
              rw [ro_succ, ih (by omega)]
              unfold stepV
              rw [h2 k (by omega)]; rfl
          rw [this nv (Nat.le_refl _)] at h5
          omega
      · refine .inr ?_
        show o.length + (n + 1) ≤ (ro f no fo nv (itG f no fo nv n o)).length
        omega
theorem InvG.start (nv : Nat) (x : ByteArray) : InvG f no fo nv x [x] :=
  ⟨List.pairwise_singleton _ _, List.mem_singleton.2 rfl, fun y hy => by rw [List.mem_singleton.1 hy]; exact .start⟩
theorem closed_all {nv : Nat} {o : List ByteArray} (hc : ∀ i, i < nv → onB f no fo o i = false) {y z : ByteArray} (hy : y ∈ o) (hz : z ∈ nx (opN f no fo nv).length (nthV (opN f no fo nv)) y) : z ∈ o := by
  obtain ⟨i, hi, hs, he, hb⟩ := (mem_nx f no fo nv y z).1 hz
  have h1 := hc i hi
  unfold onB at h1
  rw [hs, Bool.true_and] at h1
  have h2 : inL o (f i).2.1 = inL o (f i).2.2.1 := by simpa using h1
  unfold behS at hb
  unfold endB at he
  cases hA : eqB y (f i).2.1
  · rw [hA, Bool.false_or] at he
    rw [hA, he] at hb
    simp only [cond_false, cond_true] at hb
    rw [← hb, ← inL_iff, h2, inL_iff, ← (eqB_iff _ _).1 he]; exact hy
  · rw [hA] at hb
    simp only [cond_true] at hb
    rw [← hb, ← inL_iff, ← h2, inL_iff, ← (eqB_iff _ _).1 hA]; exact hy
end

/-- The model's group of a valid plant's place. -/
theorem group_holds {D : PD} (hV : D.V) (no : Nat) (fo : Nat → ByteArray) {x : ByteArray} (hx : 0 ≤ placeI D.np D.fp x) (y : ByteArray) : y ∈ itG D.fv no fo D.nv D.np [x] ↔ Rch (opN D.fv no fo D.nv).length (nthV (opN D.fv no fo D.nv)) x y := by
  obtain ⟨h1, h2⟩ := (InvG.start (f := D.fv) (no := no) (fo := fo) D.nv x).iter D.np
  have hpl : ∀ u, 0 ≤ placeI D.np D.fp u → u ∈ (List.range D.np).map fun i => (D.fp i).1 := by
    intro u hu
    unfold placeI at hu
    cases hf : (List.range D.np).find? (fun i => eqB (D.fp i).1 u) with
    | none => rw [hf] at hu; simp at hu
    | some i =>
      have a := List.find?_some hf
      have b := List.mem_of_find?_eq_some hf
      exact List.mem_map.2 ⟨i, b, (eqB_iff _ _).1 a⟩
  have hin : ∀ u, Rch (opN D.fv no fo D.nv).length (nthV (opN D.fv no fo D.nv)) x u → u ∈ (List.range D.np).map fun i => (D.fp i).1 := by
    intro u hu
    cases hu with
    | start => exact hpl x hx
    | @step v _ _ hz =>
      obtain ⟨i, hi, _, he, hb⟩ := (mem_nx D.fv no fo D.nv v u).1 hz
      have hv := hV.2.2.2 i hi
      have q1 : 0 ≤ placeI D.np D.fp (D.fv i).2.1 := by have := hv.2.2.2.1; simpa using this
      have q2 : 0 ≤ placeI D.np D.fp (D.fv i).2.2.1 := by have := hv.2.2.2.2.1; simpa using this
      unfold behS at hb
      unfold endB at he
      cases hA : eqB v (D.fv i).2.1
      · rw [hA, Bool.false_or] at he
        rw [hA, he] at hb
        rw [← hb]; exact hpl _ q1
      · rw [hA] at hb
        rw [← hb]; exact hpl _ q2
  have hlen := nodup_le _ _ h1.asc.nodup (fun u hu => hin u (h1.only u hu))
  have hc : ∀ i, i < D.nv → onB D.fv no fo (itG D.fv no fo D.nv D.np [x]) i = false := by
    rcases h2 with h2 | h2
    · exact h2
    · simp at h2 hlen; omega
  refine ⟨h1.only y, fun hr => ?_⟩
  induction hr with
  | start => exact h1.here
  | step _ hz ih => exact closed_all hc ih hz
theorem group_asc {D : PD} (no : Nat) (fo : Nat → ByteArray) (x : ByteArray) (n : Nat) : AscL (itG D.fv no fo D.nv n [x]) := ((InvG.start (f := D.fv) (no := no) (fo := fo) D.nv x).iter n).1.asc
/-- A list of all that can be come to, sorted, is the model's group. -/
theorem group_of {D : PD} (hV : D.V) (no : Nat) (fo : Nat → ByteArray) {x : ByteArray} (hx : 0 ≤ placeI D.np D.fp x) {L S : List ByteArray} (hg : Good (opN D.fv no fo D.nv).length (nthV (opN D.fv no fo D.nv)) x L) (hS : AscL S) (hm : ∀ y, y ∈ S ↔ y ∈ L) : S = itG D.fv no fo D.nv D.np [x] :=
  asc_unique _ _ hS (group_asc no fo x D.np) fun y => by rw [hm, hg.iff, group_holds hV no fo hx]

end Go.Proofs.YtbdhlcfcmennjacGreat
