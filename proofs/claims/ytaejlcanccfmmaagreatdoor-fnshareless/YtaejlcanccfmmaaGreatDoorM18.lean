/-
  Several texts in one.
-/
import Derived.Test.YtaejlcanccfmmaaGreatDoorM16
import Derived.Test.YtaejlcanccfmmaaGreatDoorZrs
import Derived.Test.YtaejlcanccfmmaaGreatDoorM9
import Derived.Test.YtaejlcanccfmmaaGreatDoorM10
namespace Go.Proofs.YtaejlcanccfmmaaGreatDoor
open Go.RowKit
section
variable {α : Type}
theorem asc_pair {R : α → α → Bool} (tr : ∀ a b c, R a b = true → R b c = true → R a c = true) {l : List α} : (∀ i (hi : i < l.length), asO R (prevO l i) l[i] = true) ↔ l.Pairwise (fun a b => R a b = true) := by
  constructor
  · intro h
    rw [List.pairwise_iff_getElem]
    intro i j hi hj hij
    induction j with
    | zero => omega
    | succ j ih =>
      have h1 := h (j + 1) hj
      rw [prev_succ l j (by omega)] at h1
      have h2 : R l[j] l[j + 1] = true := h1
      by_cases e : i = j
      · subst e; exact h2
      · exact tr _ _ _ (ih (by omega) (by omega)) h2
  · intro h i hi
    cases i with
    | zero => rw [prev_zero]; rfl
    | succ i =>
      rw [prev_succ l i (by omega)]
      exact List.pairwise_iff_getElem.1 h i (i + 1) (by omega) hi (by omega)
theorem ok_pair {R : α → α → Bool} {P : α → Bool} (tr : ∀ a b c, R a b = true → R b c = true → R a c = true) {lim : Nat} {l : List α} : okB lim (tst P R) l = true ↔ l.length ≤ lim ∧ (∀ x ∈ l, P x = true) ∧ l.Pairwise (fun a b => R a b = true) := by
  rw [ok_iff, ← asc_pair tr]
  constructor
  · rintro ⟨h0, h⟩
    refine ⟨h0, fun x hx => ?_, fun i hi => ?_⟩
    · obtain ⟨i, hi, rfl⟩ := List.getElem_of_mem hx
      have := h i hi; rw [tst, Bool.and_eq_true] at this; exact this.1
    · have := h i hi; rw [tst, Bool.and_eq_true] at this; exact this.2
  · rintro ⟨h0, h1, h2⟩
    exact ⟨h0, fun i hi => by rw [tst, Bool.and_eq_true]; exact ⟨h1 _ (List.getElem_mem hi), h2 i hi⟩⟩
end
theorem sub_pair {all l : List ByteArray} : subB all l = true ↔ (∀ x ∈ l, x ∈ all) ∧ l.Pairwise (fun a b => ltB a b = true) := by
  rw [subB, ok_pair (P := fun f => hasB all f) (R := ltB) (fun a b c => ltB_transM)]
  constructor
  · rintro ⟨_, h1, h2⟩; exact ⟨fun x hx => (hasB_iff _ _).1 (h1 x hx), h2⟩
  · rintro ⟨h1, h2⟩; exact ⟨Nat.le_refl _, fun x hx => (hasB_iff _ _).2 (h1 x hx), h2⟩
theorem share_no {a b : List ByteArray} : shareB a b = false ↔ ∀ y ∈ a, y ∉ b := by
  unfold shareB
  rw [List.any_eq_false]
  exact ⟨fun h y hy hb => h y hy ((hasB_iff _ _).2 hb), fun h y hy hb => h y hy ((hasB_iff _ _).1 hb)⟩
def ApS (a b : DShareBatch) : Prop := ∀ y ∈ a.2.1, y ∉ b.2.1
theorem bok_pair {T : List ByteArray} {Bs : List DShareBatch} : BokP (T, Bs) ↔ okB 8 (tst nameB ltB) T = true ∧ Bs.length ≤ 5 ∧ (∀ f ∈ Bs, nameB f.1 = true ∧ subB T f.2.2 = true ∧ subB f.2.2 f.2.1 = true) ∧ Bs.Pairwise (fun a b => ltB a.1 b.1 = true) ∧ Bs.Pairwise ApS := by
  rw [bok_parts, ok_pair (P := fun f : DShareBatch => baI T f) (R := fun p f : DShareBatch => ltB p.1 f.1) (fun a b c => ltB_transM)]
  have e1 : (∀ f ∈ Bs, baI T f = true) ↔ (∀ f ∈ Bs, nameB f.1 = true ∧ subB T f.2.2 = true ∧ subB f.2.2 f.2.1 = true) :=
    ⟨fun h f hf => by have := h f hf; rw [baI, Bool.and_eq_true, Bool.and_eq_true] at this; exact this, fun h f hf => by rw [baI, Bool.and_eq_true, Bool.and_eq_true]; exact h f hf⟩
  have e2 : Apart Bs ↔ Bs.Pairwise ApS := by
    rw [List.pairwise_iff_getElem]
    exact ⟨fun h i j hi hj hij y hy hy' => share_no.1 (h j hj i hij) y hy' hy, fun h i hi k hk => share_no.2 fun y hy hy' => h k i (by omega) hi hk y hy' hy⟩
  rw [e1, e2]
  constructor
  · rintro ⟨h1, ⟨h2, h3, h4⟩, h5⟩; exact ⟨h1, h2, h3, h4, h5⟩
  · rintro ⟨h1, h2, h3, h4, h5⟩; exact ⟨h1, ⟨h2, h3, h4⟩, h5⟩
def Cn (Bs : List DShareBatch) (f : DShareBatch) (gone : List ByteArray) : Prop := ∀ g ∈ Bs, g.1 ≠ f.1 → g.1 ∉ gone → ∀ y ∈ g.2.1, y ∉ f.2.2
structure SafO (Bs : List DShareBatch) (O : List ByteArray) : Prop where
  nd : O.Nodup
  mem : ∀ y, y ∈ O ↔ ∃ f ∈ Bs, f.1 = y
  go : ∀ A y B, O = A ++ y :: B → ∃ f ∈ Bs, f.1 = y ∧ Cn Bs f A
section
variable {T : List ByteArray} {Bs Bs' : List DShareBatch} {O : List ByteArray}
theorem can_cn (h : BokP (T, Bs)) {q : Nat} (hq : q < Bs.length) {gone : List ByteArray} : canB Bs q gone = true ↔ Cn Bs Bs[q] gone := by
  constructor
  · intro hc g hg hne hng
    obtain ⟨i, hi, rfl⟩ := List.getElem_of_mem hg
    have h1 : inWay Bs q gone i = false := by
      cases e : inWay Bs q gone i with
      | false => rfl
      | true => rw [can_no hi e] at hc; cases hc
    unfold inWay at h1
    rw [btN_at hi, btN_at hq] at h1
    have h2 : (i == q) = false := by
      rw [beq_eq_false_iff_ne]
      intro e
      subst e
      exact hne rfl
    have h3 : hasB gone Bs[i].1 = false := by
      cases e : hasB gone Bs[i].1 with
      | false => rfl
      | true => exact absurd ((hasB_iff _ _).1 e) hng
    rw [h2, h3] at h1
    exact share_no.1 (by simpa using h1)
  · intro hc
    refine can_yes fun i hi => ?_
    unfold inWay
    rw [btN_at hi, btN_at hq]
    by_cases e : i = q
    · subst e; simp
    · cases e2 : hasB gone Bs[i].1 with
      | true => simp
      | false =>
        have h1 := hc Bs[i] (List.getElem_mem hi) (fun hn => e (bok_names h hi hq hn)) (fun hm => by rw [(hasB_iff _ _).2 hm] at e2; cases e2)
        rw [share_no.2 h1]
        simp
theorem fits_saf (h : BokP (T, Bs)) : fitsB (T, Bs) O = true ↔ SafO Bs O := by
  have nn := names_nodup h
  constructor
  · intro hf
    obtain ⟨hb, hl, hp⟩ := fit_parts hf
    have nd := fit_nodup hf
    have sub : ∀ y ∈ O, y ∈ Bs.map (·.1) := fun y hy => by
      obtain ⟨i, hi, rfl⟩ := List.getElem_of_mem hy
      obtain ⟨q, hq, e, _⟩ := hp i hi
      exact List.mem_map.2 ⟨_, List.getElem_mem hq, e⟩
    refine ⟨nd, fun y => ⟨fun hy => ?_, ?_⟩, fun A y B e => ?_⟩
    · obtain ⟨f, hf, e⟩ := List.mem_map.1 (sub y hy)
      exact ⟨f, hf, e⟩
    · rintro ⟨f, hfB, rfl⟩
      refine Classical.byContradiction fun hno => ?_
      have h1 : (f.1 :: O).Nodup := List.nodup_cons.2 ⟨hno, nd⟩
      have h2 := h1.length_le_of_subset (l₂ := Bs.map (·.1)) (fun z hz => by
        rcases List.mem_cons.1 hz with rfl | hz
        · exact List.mem_map.2 ⟨f, hfB, rfl⟩
        · exact sub z hz)
      rw [List.length_cons, List.length_map] at h2
      omega
    · have hi : A.length < O.length := by rw [e]; simp
      obtain ⟨q, hq, e1, _, hc⟩ := hp A.length hi
      have e2 : O[A.length] = y := by simp [e]
      have e3 : O.take A.length = A := by rw [e]; simp
      rw [e2] at e1
      rw [e3] at hc
      exact ⟨Bs[q], List.getElem_mem hq, e1, (can_cn h hq).1 hc⟩
  · intro hs
    have l1 : O.length ≤ Bs.length := by
      have := hs.nd.length_le_of_subset (l₂ := Bs.map (·.1)) (fun z hz => by
        obtain ⟨f, hf, e⟩ := (hs.mem z).1 hz
        exact List.mem_map.2 ⟨f, hf, e⟩)
      rw [List.length_map] at this; exact this
    have l2 : Bs.length ≤ O.length := by
      have := nn.length_le_of_subset (l₂ := O) (fun z hz => by
        obtain ⟨f, hf, e⟩ := List.mem_map.1 hz
        exact (hs.mem z).2 ⟨f, hf, e⟩)
      rw [List.length_map] at this; exact this
    refine fits_yes (bok_iff.2 h) (show O.length = Bs.length by omega) fun i hi => ?_
    show fitB Bs O i = true
    have e : O = O.take i ++ O[i] :: O.drop (i + 1) := by simp
    obtain ⟨f, hf, e1, hc⟩ := hs.go _ _ _ e
    obtain ⟨q, hq, rfl⟩ := List.getElem_of_mem hf
    have ha : atZI Bs O[i] = (q : Int) := by rw [← e1]; exact at_of h hq
    have hn : hasB (O.take i) O[i] = false := by
      cases e2 : hasB (O.take i) O[i] with
      | false => rfl
      | true =>
        exfalso
        obtain ⟨j, hj, ej⟩ := List.getElem_of_mem ((hasB_iff _ _).1 e2)
        rw [List.length_take] at hj
        rw [List.getElem_take] at ej
        exact (List.pairwise_iff_getElem.1 hs.nd) j i (by omega) hi (by omega) ej
    unfold fitB
    rw [List.getElem?_eq_getElem hi]
    simp only [Option.getD_some]
    simp only [ha, hn, Int.toNat_natCast, (can_cn h hq).2 hc]
    simp
theorem safe_saf (h : BokP (T, Bs)) : (ordS (T, Bs)).2 = true ↔ ∃ O, SafO Bs O :=
  ⟨fun hs => ⟨_, (fits_saf h).1 (safe_fits hs)⟩, fun ⟨_, hO⟩ => fits_safe ((fits_saf h).2 hO)⟩
theorem saf_less (hl : Bs'.length = Bs.length) (hh : ∀ i (hi : i < Bs.length), (Bs'[i]'(by omega)).1 = Bs[i].1 ∧ (∀ y ∈ (Bs'[i]'(by omega)).2.1, y ∈ Bs[i].2.1) ∧ (∀ y ∈ (Bs'[i]'(by omega)).2.2, y ∈ Bs[i].2.2)) (h : SafO Bs O) : SafO Bs' O := by
  refine ⟨h.nd, fun y => ?_, fun A y B e => ?_⟩
  · rw [h.mem]
    constructor
    · rintro ⟨f, hf, rfl⟩
      obtain ⟨i, hi, rfl⟩ := List.getElem_of_mem hf
      exact ⟨_, List.getElem_mem (by omega), (hh i hi).1⟩
    · rintro ⟨f, hf, rfl⟩
      obtain ⟨i, hi, rfl⟩ := List.getElem_of_mem hf
      exact ⟨_, List.getElem_mem (by omega), (hh i (by omega)).1.symm⟩
  · obtain ⟨f, hf, e1, hc⟩ := h.go A y B e
    obtain ⟨i, hi, rfl⟩ := List.getElem_of_mem hf
    refine ⟨_, List.getElem_mem (show i < Bs'.length by omega), (hh i hi).1.trans e1, fun g hg hne hng z hz hz' => ?_⟩
    obtain ⟨j, hj, rfl⟩ := List.getElem_of_mem hg
    have hj' : j < Bs.length := by omega
    obtain ⟨n1, n2, _⟩ := hh j hj'
    obtain ⟨m1, _, m3⟩ := hh i hi
    rw [n1, m1] at hne
    rw [n1] at hng
    exact hc Bs[j] (List.getElem_mem hj') hne hng z (n2 z hz) (m3 z hz')
theorem saf_leave {x : ByteArray} (hs : ∀ g, g ∈ Bs' ↔ g ∈ Bs ∧ g.1 ≠ x) (hx : ∃ f ∈ Bs, f.1 = x) (h : SafO Bs O) : ∃ O', SafO Bs' O' := by
  obtain ⟨P, Q, rfl⟩ := List.append_of_mem ((h.mem x).2 hx)
  have nd := h.nd
  rw [List.nodup_append, List.nodup_cons] at nd
  have hxP : x ∉ P := fun hp => nd.2.2 x hp x List.mem_cons_self rfl
  have hxQ : x ∉ Q := nd.2.1.1
  refine ⟨P ++ Q, ?_, fun y => ?_, fun A y B e => ?_⟩
  · rw [List.nodup_append]
    exact ⟨nd.1, nd.2.1.2, fun a ha b hb => nd.2.2 a ha b (List.mem_cons_of_mem _ hb)⟩
  · have hm := h.mem y
    rw [List.mem_append, List.mem_cons] at hm
    rw [List.mem_append]
    constructor
    · intro hy
      obtain ⟨f, hf, e⟩ := hm.1 (hy.imp id Or.inr)
      refine ⟨f, (hs f).2 ⟨hf, ?_⟩, e⟩
      rw [e]
      rintro rfl
      exact hy.elim hxP hxQ
    · rintro ⟨f, hf, rfl⟩
      obtain ⟨hf1, hf2⟩ := (hs f).1 hf
      rcases hm.2 ⟨f, hf1, rfl⟩ with hp | hp | hp
      · exact .inl hp
      · exact absurd hp hf2
      · exact .inr hp
  · have key : ∃ A', (∀ z, z ≠ x → z ∉ A → z ∉ A') ∧ ∃ B', P ++ x :: Q = A' ++ y :: B' := by
      rcases List.append_eq_append_iff.1 e with ⟨C, e1, e2⟩ | ⟨C, e1, e2⟩
      · refine ⟨P ++ x :: C, fun z hz hn hm => ?_, B, ?_⟩
        · rw [e1, List.mem_append] at hn
          rcases List.mem_append.1 hm with hm | hm
          · exact hn (.inl hm)
          · rcases List.mem_cons.1 hm with hm | hm
            · exact hz hm
            · exact hn (.inr hm)
        · rw [e2]; simp
      · cases C with
        | nil =>
          have e3 : Q = y :: B := by simpa using e2.symm
          have e4 : P = A := by simpa using e1
          refine ⟨P ++ [x], fun z hz hn hm => ?_, B, by rw [e3]; simp⟩
          rcases List.mem_append.1 hm with hm | hm
          · rw [e4] at hm; exact hn hm
          · exact hz (List.mem_singleton.1 hm)
        | cons c C =>
          rw [List.cons_append, List.cons.injEq] at e2
          obtain ⟨rfl, e3⟩ := e2
          exact ⟨A, fun z _ hn => hn, C ++ x :: Q, by rw [e1]; simp⟩
    obtain ⟨A', hA', B', e'⟩ := key
    obtain ⟨f, hf, e1, hc⟩ := h.go A' y B' e'
    have hy : y ∈ P ++ Q := by rw [e]; simp
    have hyx : y ≠ x := by
      rintro rfl
      exact (List.mem_append.1 hy).elim hxP hxQ
    refine ⟨f, (hs f).2 ⟨hf, by rw [e1]; exact hyx⟩, e1, fun g hg hne hng z hz => ?_⟩
    obtain ⟨hg1, hg2⟩ := (hs g).1 hg
    exact hc g hg1 hne (hA' g.1 hg2 hng) z hz
theorem saf_enter {x : ByteArray} {nd : List ByteArray} (hs : ∀ g, g ∈ Bs' ↔ g ∈ Bs ∨ g = (x, [], nd)) (hx : ∀ g ∈ Bs, g.1 ≠ x) (h : SafO Bs O) : SafO Bs' (O ++ [x]) := by
  have hxO : x ∉ O := fun hm => by
    obtain ⟨f, hf, e⟩ := (h.mem x).1 hm
    exact hx f hf e
  refine ⟨?_, fun y => ?_, fun A y B e => ?_⟩
  · rw [List.nodup_append]
    refine ⟨h.nd, by simp, fun a ha b hb => ?_⟩
    rw [List.mem_singleton.1 hb]
    rintro rfl
    exact hxO ha
  · rw [List.mem_append, h.mem, List.mem_singleton]
    constructor
    · rintro (⟨f, hf, e⟩ | rfl)
      · exact ⟨f, (hs f).2 (.inl hf), e⟩
      · exact ⟨_, (hs _).2 (.inr rfl), rfl⟩
    · rintro ⟨f, hf, rfl⟩
      rcases (hs f).1 hf with hf | rfl
      · exact .inl ⟨f, hf, rfl⟩
      · exact .inr rfl
  · rcases List.append_eq_append_iff.1 e with ⟨C, e1, e2⟩ | ⟨C, e1, e2⟩
    · cases C with
      | nil =>
        have e3 : y = x := by simp at e2; exact e2.1.symm
        have e4 : A = O := by simpa using e1
        refine ⟨_, (hs _).2 (.inr rfl), e3.symm, fun g hg hne hng => ?_⟩
        rcases (hs g).1 hg with hg | rfl
        · exact absurd (by rw [e4]; exact (h.mem g.1).2 ⟨g, hg, rfl⟩) hng
        · exact absurd rfl hne
      | cons c C =>
        have := congrArg List.length e2
        simp at this
    · cases C with
      | nil =>
        have e3 : y = x := by simp at e2; exact e2.1
        have e4 : A = O := by simpa using e1.symm
        refine ⟨_, (hs _).2 (.inr rfl), e3.symm, fun g hg hne hng => ?_⟩
        rcases (hs g).1 hg with hg | rfl
        · exact absurd (by rw [e4]; exact (h.mem g.1).2 ⟨g, hg, rfl⟩) hng
        · exact absurd rfl hne
      | cons c C =>
        rw [List.cons_append, List.cons.injEq] at e2
        obtain ⟨rfl, _⟩ := e2
        obtain ⟨f, hf, e3, hc⟩ := h.go A y C e1
        refine ⟨f, (hs f).2 (.inl hf), e3, fun g hg hne hng z hz => ?_⟩
        rcases (hs g).1 hg with hg | rfl
        · exact hc g hg hne hng z hz
        · cases hz
end
section
variable {D : DShareBook} {x : ByteArray} {nd : List ByteArray}
theorem tw_take {α : Type} (p : α → Bool) (l : List α) : l.take (l.takeWhile p).length = l.takeWhile p := by
  have h := List.takeWhile_append_dropWhile (p := p) (l := l)
  have h2 : ∀ (a b : List α), (a ++ b).take a.length = a := fun a b => by simp
  have h3 := h2 (l.takeWhile p) (l.dropWhile p)
  rw [h] at h3
  exact h3
theorem ltB_tri {a b : ByteArray} (h1 : ltB a b = false) (h2 : a ≠ b) : ltB b a = true := by
  rw [ltB_iffM]
  have h3 : ¬ a.toList < b.toList := fun h => by rw [(ltB_iffM _ _).2 h] at h1; cases h1
  rcases List.le_iff_lt_or_eq.1 (List.not_lt.1 h3) with h | h
  · exact h
  · exact absurd ((eqB_iffM b a).1 (by unfold eqB; rw [h]; simp)).symm h2
theorem les_ok (h : BokP D) (h1 : ¬ atZI D.2 x < 0) (h2 : subB (btN D.2 (atZI D.2 x).toNat).2.2 nd = true) : BokP (D.1, D.2.set (atZI D.2 x).toNat (lesB (btN D.2 (atZI D.2 x).toNat) nd)) ∧ ((ordS D).2 = true → (ordS (D.1, D.2.set (atZI D.2 x).toNat (lesB (btN D.2 (atZI D.2 x).toNat) nd))).2 = true) := by
  obtain ⟨T, Bs⟩ := D
  simp only at h1 h2 ⊢
  obtain ⟨q, eq, hq⟩ := at_lt h1
  rw [eq, Int.toNat_natCast] at h2 ⊢
  rw [btN_at hq] at h2 ⊢
  obtain ⟨p1, p2, p3, p4, p5⟩ := bok_pair.1 h
  have hh : ∀ i (hi : i < Bs.length), ((Bs.set q (lesB Bs[q] nd))[i]'(by rw [List.length_set]; exact hi)).1 = Bs[i].1 ∧ (∀ y ∈ ((Bs.set q (lesB Bs[q] nd))[i]'(by rw [List.length_set]; exact hi)).2.1, y ∈ Bs[i].2.1) ∧ (∀ y ∈ ((Bs.set q (lesB Bs[q] nd))[i]'(by rw [List.length_set]; exact hi)).2.2, y ∈ Bs[i].2.2) := fun i hi => by
    rw [List.getElem_set]
    split
    · rename_i e
      subst e
      exact ⟨rfl, fun y hy => (List.mem_filter.1 hy).1, fun y hy => (sub_pair.1 h2).1 y hy⟩
    · exact ⟨rfl, fun _ h => h, fun _ h => h⟩
  have hb : BokP (T, Bs.set q (lesB Bs[q] nd)) := by
    refine bok_pair.2 ⟨p1, by rw [List.length_set]; exact p2, fun f hf => ?_, ?_, ?_⟩
    · rcases List.mem_or_eq_of_mem_set hf with hf | rfl
      · exact p3 f hf
      · obtain ⟨n1, n2, n3⟩ := p3 Bs[q] (List.getElem_mem hq)
        refine ⟨n1, sub_pair.2 ⟨fun y hy => (sub_pair.1 n2).1 y ((sub_pair.1 h2).1 y hy), (sub_pair.1 h2).2⟩, sub_pair.2 ⟨fun y hy => (hasB_iff _ _).1 (List.mem_filter.1 hy).2, (sub_pair.1 n3).2.sublist List.filter_sublist⟩⟩
    · rw [List.pairwise_iff_getElem] at p4 ⊢
      intro i j hi hj hij
      rw [List.length_set] at hi hj
      rw [(hh i hi).1, (hh j hj).1]
      exact p4 i j hi hj hij
    · rw [List.pairwise_iff_getElem] at p5 ⊢
      intro i j hi hj hij y hy hy'
      rw [List.length_set] at hi hj
      exact p5 i j hi hj hij y ((hh i hi).2.1 y hy) ((hh j hj).2.1 y hy')
  refine ⟨hb, fun hs => ?_⟩
  obtain ⟨O, hO⟩ := (safe_saf h).1 hs
  exact (safe_saf hb).2 ⟨O, saf_less (by rw [List.length_set]) hh hO⟩
theorem names_ne {T : List ByteArray} {Bs : List DShareBatch} (h : BokP (T, Bs)) {q : Nat} (hq : q < Bs.length) (g : DShareBatch) : g ∈ Bs.take q ++ Bs.drop (q + 1) ↔ g ∈ Bs ∧ g.1 ≠ Bs[q].1 := by
  rw [List.mem_append]
  constructor
  · rintro (hg | hg)
    · obtain ⟨i, hi, rfl⟩ := List.getElem_of_mem hg
      rw [List.length_take] at hi
      rw [List.getElem_take]
      exact ⟨List.getElem_mem _, fun e => by have := bok_names h (show i < Bs.length by omega) hq e; omega⟩
    · obtain ⟨i, hi, rfl⟩ := List.getElem_of_mem hg
      rw [List.length_drop] at hi
      rw [List.getElem_drop]
      exact ⟨List.getElem_mem _, fun e => by have := bok_names h (show q + 1 + i < Bs.length by omega) hq e; omega⟩
  · rintro ⟨hg, hne⟩
    obtain ⟨i, hi, rfl⟩ := List.getElem_of_mem hg
    by_cases h1 : i < q
    · exact .inl (List.mem_iff_getElem.2 ⟨i, by rw [List.length_take]; omega, by rw [List.getElem_take]⟩)
    · have h2 : i ≠ q := fun e => by subst e; exact hne rfl
      exact .inr (List.mem_iff_getElem.2 ⟨i - (q + 1), by rw [List.length_drop]; omega, by rw [List.getElem_drop]; congr 1; omega⟩)
theorem lev_ok (h : BokP D) (h1 : ¬ atZI D.2 x < 0) : BokP (D.1, D.2.take (atZI D.2 x).toNat ++ D.2.drop ((atZI D.2 x).toNat + 1)) ∧ ((ordS D).2 = true → (ordS (D.1, D.2.take (atZI D.2 x).toNat ++ D.2.drop ((atZI D.2 x).toNat + 1))).2 = true) := by
  obtain ⟨T, Bs⟩ := D
  simp only at h1 ⊢
  obtain ⟨q, eq, hq⟩ := at_lt h1
  rw [eq, Int.toNat_natCast]
  obtain ⟨p1, p2, p3, p4, p5⟩ := bok_pair.1 h
  have hm := names_ne h hq
  have hsub : List.Sublist (Bs.take q ++ Bs.drop (q + 1)) Bs := by
    have h3 : Bs = Bs.take q ++ Bs.drop q := (List.take_append_drop q Bs).symm
    have h4 : List.Sublist (Bs.drop (q + 1)) (Bs.drop q) := by
      rw [← List.drop_drop]
      exact List.drop_sublist _ _
    exact ((List.Sublist.refl _).append h4).trans (by rw [← h3]; exact List.Sublist.refl _)
  have hb : BokP (T, Bs.take q ++ Bs.drop (q + 1)) := bok_pair.2 ⟨p1, Nat.le_trans hsub.length_le p2, fun f hf => p3 f ((hm f).1 hf).1, p4.sublist hsub, p5.sublist hsub⟩
  refine ⟨hb, fun hs => ?_⟩
  obtain ⟨O, hO⟩ := (safe_saf h).1 hs
  exact (safe_saf hb).2 (saf_leave hm ⟨_, List.getElem_mem hq, rfl⟩ hO)
theorem ent_ok (h : BokP D) (h1 : nameB x = true) (h2 : subB D.1 nd = true) (h3 : ¬ 0 ≤ atZI D.2 x) (h4 : ¬ 5 ≤ D.2.length) : BokP (D.1, D.2.take (posB D.2 x) ++ [(x, [], nd)] ++ D.2.drop (posB D.2 x)) ∧ (ordS (D.1, D.2.take (posB D.2 x) ++ [(x, [], nd)] ++ D.2.drop (posB D.2 x))).2 = (ordS D).2 := by
  obtain ⟨T, Bs⟩ := D
  simp only at h2 h3 h4 ⊢
  obtain ⟨p1, p2, p3, p4, p5⟩ := bok_pair.1 h
  obtain ⟨k, hk⟩ : ∃ k, posB Bs x = k := ⟨_, rfl⟩
  have hkl : k ≤ Bs.length := by rw [← hk]; exact pos_le _ _
  have hlow : ∀ a ∈ Bs.take k, ltB a.1 x = true := fun a ha => by
    rw [← hk] at ha
    unfold posB at ha
    have e : Bs.take (Bs.takeWhile fun f => ltB f.1 x).length = Bs.takeWhile fun f => ltB f.1 x := tw_take _ _
    rw [e] at ha
    have := List.all_takeWhile (p := fun f : DShareBatch => ltB f.1 x) (l := Bs)
    exact List.all_eq_true.1 this a ha
  have hne : ∀ g ∈ Bs, g.1 ≠ x := fun g hg e => by
    obtain ⟨q, hq, rfl⟩ := List.getElem_of_mem hg
    have := at_of h hq
    rw [e] at this
    omega
  have hhigh : ∀ b ∈ Bs.drop k, ltB x b.1 = true := fun b hb => by
    have hstop : ∀ hk' : k < Bs.length, ltB Bs[k].1 x = false := fun hk' => by
      cases e : ltB Bs[k].1 x with
      | false => rfl
      | true =>
        exfalso
        have h5 : Bs.takeWhile (fun f => ltB f.1 x) = Bs.take k := by
          rw [← hk]
          unfold posB
          exact (tw_take _ _).symm
        have h6 : Bs.dropWhile (fun f => ltB f.1 x) = Bs.drop k := by
          have h7 := List.takeWhile_append_dropWhile (p := fun f : DShareBatch => ltB f.1 x) (l := Bs)
          rw [h5] at h7
          exact List.append_cancel_left (h7.trans (List.take_append_drop k Bs).symm)
        have h8 := List.head?_dropWhile_not (p := fun f : DShareBatch => ltB f.1 x) (l := Bs)
        rw [h6] at h8
        rw [List.head?_drop, List.getElem?_eq_getElem hk'] at h8
        simp only at h8
        rw [e] at h8
        cases h8
    obtain ⟨i, hi, rfl⟩ := List.getElem_of_mem hb
    rw [List.length_drop] at hi
    rw [List.getElem_drop]
    have hk' : k < Bs.length := by omega
    have h9 : ltB x Bs[k].1 = true := ltB_tri (hstop hk') (hne _ (List.getElem_mem hk'))
    by_cases e0 : i = 0
    · subst e0; exact h9
    · exact ltB_transM h9 (List.pairwise_iff_getElem.1 p4 k (k + i) hk' (by omega) (by omega))
  rw [hk]
  have hm : ∀ g, g ∈ Bs.take k ++ [(x, [], nd)] ++ Bs.drop k ↔ g ∈ Bs ∨ g = (x, [], nd) := fun g => by
    have e : Bs = Bs.take k ++ Bs.drop k := (List.take_append_drop k Bs).symm
    rw [List.mem_append, List.mem_append, List.mem_singleton]
    constructor
    · rintro ((h | h) | h)
      · exact .inl (List.mem_of_mem_take h)
      · exact .inr h
      · exact .inl (List.mem_of_mem_drop h)
    · rintro (h | h)
      · rw [e, List.mem_append] at h
        exact h.elim (fun h => .inl (.inl h)) .inr
      · exact .inl (.inr h)
  have hbig : ∀ {R : DShareBatch → DShareBatch → Prop}, Bs.Pairwise R → (∀ a ∈ Bs.take k, R a (x, [], nd)) → (∀ b ∈ Bs.drop k, R (x, [], nd) b) → (Bs.take k ++ [(x, [], nd)] ++ Bs.drop k).Pairwise R := fun {R} hp ha hb => by
    have e : Bs.take k ++ Bs.drop k = Bs := List.take_append_drop k Bs
    rw [← e, List.pairwise_append] at hp
    rw [List.append_assoc, List.pairwise_append]
    refine ⟨hp.1, ?_, fun a hA b hB => ?_⟩
    · rw [List.singleton_append, List.pairwise_cons]
      exact ⟨hb, hp.2.1⟩
    · rcases List.mem_append.1 hB with hB | hB
      · rw [List.mem_singleton.1 hB]; exact ha a hA
      · exact hp.2.2 a hA b hB
  have hb : BokP (T, Bs.take k ++ [(x, [], nd)] ++ Bs.drop k) := by
    refine bok_pair.2 ⟨p1, ?_, fun f hf => ?_, hbig p4 hlow hhigh, hbig p5 (fun a _ y _ hy => by cases hy) (fun b _ y hy => by cases hy)⟩
    · simp only [List.length_append, List.length_take, List.length_drop, List.length_cons, List.length_nil]
      omega
    · rcases (hm f).1 hf with hf | rfl
      · exact p3 f hf
      · exact ⟨h1, h2, sub_pair.2 ⟨fun y hy => (by cases hy), List.Pairwise.nil⟩⟩
  refine ⟨hb, ?_⟩
  rw [Bool.eq_iff_iff, safe_saf hb, safe_saf h]
  constructor
  · rintro ⟨O, hO⟩
    refine saf_leave (x := x) (fun g => ?_) ⟨_, (hm _).2 (.inr rfl), rfl⟩ hO
    rw [hm]
    constructor
    · exact fun hg => ⟨.inl hg, hne g hg⟩
    · rintro ⟨hg | rfl, hx⟩
      · exact hg
      · exact absurd rfl hx
  · rintro ⟨O, hO⟩
    exact ⟨_, saf_enter hm hne hO⟩
end
end Go.Proofs.YtaejlcanccfmmaaGreatDoor

namespace Go.Proofs.YtaejlcanccfmmaaGreatDoor
open Go.RowKit
structure Rd (R : Nat) (w : World) (ob : Option Addr) (n cb : Nat) (p : Int) (f : Nat → Int) : Prop where
  at_ : w.heap[R]? = some (.cells #[.slice ob n cb, .int .i64 p] 78 (0, 0))
  le : n ≤ 2000
  p0 : 0 ≤ p
  p1 : p ≤ 100000
  fb : ∀ i, 0 ≤ f i ∧ f i ≤ 255
  ce : ∀ i, i < n → ∃ b off, ob = some ⟨b, off, none⟩ ∧ b < R ∧ w.cell? ⟨b, off + i, none⟩ = some (.int .u8 (f i))
theorem wrap_i64 (n : Int) (h0 : 0 ≤ n) (h1 : n < 9223372036854775808) : IntKind.i64.wrap n = n := by
  simp [IntKind.wrap, IntKind.bits, IntKind.signed]; omega
theorem xor_i64 (a b : Int) (a0 : 0 ≤ a) (a1 : a ≤ 1000000000) (b0 : 0 ≤ b) (b1 : b ≤ 1000000000) : 0 ≤ bits .xor .i64 a b := by
  obtain ⟨x, rfl⟩ := Int.eq_ofNat_of_zero_le a0
  obtain ⟨y, rfl⟩ := Int.eq_ofNat_of_zero_le b0
  have hx : x ^^^ y < 2 ^ 32 := Nat.xor_lt_two_pow (by omega) (by omega)
  have h1 : (BitVec.ofInt 64 (x : Int)).toNat = x := by
    rw [BitVec.ofInt_natCast, BitVec.toNat_ofNat]; exact Nat.mod_eq_of_lt (by omega)
  have h2 : (BitVec.ofInt 64 (y : Int)).toNat = y := by
    rw [BitVec.ofInt_natCast, BitVec.toNat_ofNat]; exact Nat.mod_eq_of_lt (by omega)
  show 0 ≤ IntKind.i64.wrap ((BitVec.ofInt 64 (x : Int) ^^^ BitVec.ofInt 64 (y : Int)).toNat : Int)
  rw [BitVec.toNat_xor, h1, h2, wrap_i64 _ (by omega) (by omega)]
  omega
set_option maxRecDepth 100000 in
set_option maxHeartbeats 1000000 in
theorem pick_any (R : Nat) (ob : Option Addr) (n cb : Nat) (p m : Int) (f : Nat → Int) (w : World) (h : Rd R w ob n cb p f) (hm : 1 ≤ m) (hm2 : m ≤ 1000) :
    Calls Tryz.prog 27 #[.pointer (some ⟨R, 0, none⟩), .int .i64 m] w fun e w' => ∃ x q, e = .returned (.int .i64 x) ∧ 0 ≤ x ∧ x < m ∧ w' = (w.setCell ⟨R, 1, none⟩ (.int .i64 (p + 1))).drewN q := by
  obtain ⟨c0, f0⟩ := cell_row h.at_ 0 (.slice ob n cb) rfl
  obtain ⟨c1, f1⟩ := cell_row h.at_ 1 (.int .i64 p) rfl
  have hn := h.le
  have hp0 := h.p0
  have hp1 := h.p1
  by_cases hz : n = 0
  · subst hz
    go_enter Tryz.func27, Tryz.ntmps27
    go_wp2
    go_ret
    exact ⟨0, 0, rfl, by omega, by omega, rfl⟩
  · have hm1 : decide (m < 1) = false := by simp; omega
    have hz1 : ((n : Int) == 0) = false := by simp; omega
    by_cases hk : p < n
    · obtain ⟨k, rfl⟩ := Int.eq_ofNat_of_zero_le hp0
      obtain ⟨b, off, rfl, hbR, hcb⟩ := h.ce k (by omega)
      have hfb := h.fb k
      have hne : ¬ b = R := by omega
      go_enter Tryz.func27, Tryz.ntmps27
      go_wp2
      go_ret
      exact ⟨f k % m, 0, rfl, Int.emod_nonneg _ (by omega), Int.emod_lt_of_pos _ (by omega), rfl⟩
    · obtain ⟨k, rfl⟩ := Int.eq_ofNat_of_zero_le hp0
      obtain ⟨b, off, rfl, hbR, hc1⟩ := h.ce (k % n) (Nat.mod_lt _ (by omega))
      obtain ⟨b2, off2, e2, hbR2, hc2⟩ := h.ce ((k * 7 + 3) % n) (Nat.mod_lt _ (by omega))
      have hb1 := h.fb (k % n)
      have hb2 := h.fb ((k * 7 + 3) % n)
      generalize f (k % n) = x1 at hc1 hb1
      generalize f ((k * 7 + 3) % n) = x2 at hc2 hb2
      cases e2
      have hne : ¬ b = R := by omega
      have i1 := Int.emod_nonneg (k : Int) (show (n : Int) ≠ 0 by omega)
      have i2 := Int.emod_lt_of_pos (k : Int) (show (0 : Int) < n by omega)
      have i3 := Int.emod_nonneg ((k : Int) * 7 + 3) (show (n : Int) ≠ 0 by omega)
      have i4 := Int.emod_lt_of_pos ((k : Int) * 7 + 3) (show (0 : Int) < n by omega)
      have i5 : 0 ≤ (k : Int) / (n : Int) := Int.ediv_nonneg (by omega) (by omega)
      have i6 : (k : Int) / (n : Int) ≤ k := Int.ediv_le_self _ (by omega)
      go_enter Tryz.func27, Tryz.ntmps27
      go_wp2
      go_region
      go_wp2
      go_ret
      have hx := xor_i64 (x1 * 131 + x2 * 1117 + (k : Int) * 29 + (k : Int) / (n : Int) * 53) ((x1 * 131 + x2 * 1117 + (k : Int) * 29 + (k : Int) / (n : Int) * 53) / 64) (by omega) (by omega) (by omega) (by omega)
      refine ⟨_, 1, rfl, ?_, ?_, rfl⟩
      · exact Int.tmod_nonneg _ hx
      · exact Int.tmod_lt_of_pos _ (by omega)
theorem Rd.next {R : Nat} {w : World} {ob : Option Addr} {n cb : Nat} {p : Int} {f : Nat → Int} (h : Rd R w ob n cb p f) (hp : p + 1 ≤ 100000) (q : Nat) : Rd R ((w.setCell ⟨R, 1, none⟩ (.int .i64 (p + 1))).drewN q) ob n cb (p + 1) f := by
  have hp0 := h.p0
  refine ⟨?_, h.le, by omega, hp, h.fb, fun i hi => ?_⟩
  · show (w.setCell ⟨R, 1, none⟩ (.int .i64 (p + 1))).heap[R]? = _
    simp [World.setCell, Array.getElem?_modify, h.at_]
  · obtain ⟨b, off, h1, h2, h3⟩ := h.ce i hi
    refine ⟨b, off, h1, h2, ?_⟩
    show (w.setCell ⟨R, 1, none⟩ (.int .i64 (p + 1))).cell? ⟨b, off + i, none⟩ = _
    rw [World.cell?_of_block (w := w) (a := ⟨b, off + i, none⟩) (Below.heap_setCell w ⟨R, 1, none⟩ _ b (by show b ≠ R; omega))]
    exact h3
theorem Rd.alloc {R : Nat} {w : World} {ob : Option Addr} {n cb : Nat} {p : Int} {f : Nat → Int} (h : Rd R w ob n cb p f) (o : Obj) : Rd R (w.alloc o) ob n cb p f := by
  have hR : R < w.heap.size := (Array.getElem?_eq_some_iff.1 h.at_).1
  refine ⟨(Below.heap_alloc w o R hR).trans h.at_, h.le, h.p0, h.p1, h.fb, fun i hi => ?_⟩
  obtain ⟨b, off, h1, h2, h3⟩ := h.ce i hi
  exact ⟨b, off, h1, h2, (World.cell?_of_block (w := w) (a := ⟨b, off + i, none⟩) (Below.heap_alloc w o b (by omega))).trans h3⟩
theorem open_any (ob : Option Addr) (n cb : Nat) (w : World) (hn : n ≤ maxLen) (hnc : n ≤ cb) (h0 : 1 ≤ n → ∃ a, ob = some a) :
    Calls Tryz.prog 24 #[.slice ob n cb] w fun e w' => ∃ n' , n' ≤ 2000 ∧ n' ≤ n ∧ e = .returned (.pointer (some ⟨w.heap.size, 0, none⟩)) ∧ w' = w.alloc (.cells #[.slice ob n' cb, .int .i64 0] 78) := by
  unfold maxLen at hn
  by_cases hb : n ≤ 2000
  · go_enter Tryz.func24, Tryz.ntmps24
    go_wp2
    go_ret
    exact ⟨n, hb, Nat.le_refl _, rfl, rfl⟩
  · obtain ⟨a, rfl⟩ := h0 (by omega)
    go_enter Tryz.func24, Tryz.ntmps24
    go_wp2
    go_ret
    exact ⟨2000, by omega, by omega, rfl, rfl⟩
structure Kp (R : Nat) (w0 w : World) (ob : Option Addr) (n cb : Nat) (p : Int) (f : Nat → Int) : Prop where
  rd : Rd R w ob n cb p f
  bel : Below R w0 w
theorem Kp.alloc {R : Nat} {w0 w : World} {ob : Option Addr} {n cb : Nat} {p : Int} {f : Nat → Int} (h : Kp R w0 w ob n cb p f) (o : Obj) : Kp R w0 (w.alloc o) ob n cb p f :=
  ⟨h.rd.alloc o, h.bel.alloc (by have := (Array.getElem?_eq_some_iff.1 h.rd.at_).1; omega) o⟩
theorem Kp.lt {R : Nat} {w0 w : World} {ob : Option Addr} {n cb : Nat} {p : Int} {f : Nat → Int} (h : Kp R w0 w ob n cb p f) : R < w.heap.size := (Array.getElem?_eq_some_iff.1 h.rd.at_).1
theorem Kp.grown {R : Nat} {w0 w w' : World} {ob : Option Addr} {n cb : Nat} {p : Int} {f : Nat → Int} {row : Option Nat} (h : Kp R w0 w ob n cb p f) (hg : w.grownBy w' row) (hr : ∀ k, row = some k → R + 1 ≤ k) : Kp R w0 w' ob n cb p f := by
  have hR := h.lt
  have hne : ∀ b, b ≤ R → some b ≠ row := fun b hb e => by have := hr b e.symm; omega
  refine ⟨⟨(hg.block R hR (hne R (Nat.le_refl _))).trans h.rd.at_, h.rd.le, h.rd.p0, h.rd.p1, h.rd.fb, fun i hi => ?_⟩, h.bel.grown hg (by omega) (fun k hk => by have := hr k hk; omega)⟩
  obtain ⟨b, off, h1, h2, h3⟩ := h.rd.ce i hi
  exact ⟨b, off, h1, h2, (World.cell?_of_block (w := w) (a := ⟨b, off + i, none⟩) (hg.block b (by omega) (hne b (by omega)))).trans h3⟩
end Go.Proofs.YtaejlcanccfmmaaGreatDoor
