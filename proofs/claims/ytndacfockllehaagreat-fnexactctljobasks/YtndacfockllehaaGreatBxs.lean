/-
  What the program shares out of the want along a route, by the plant's order, is what the model shares out.
-/
import Derived.Test.YtndacfockllehaaGreatM38
import Derived.Test.YtndacfockllehaaGreatM36
namespace Go.Proofs.YtndacfockllehaaGreat
open Go.RowKit

theorem pigeon {α : Type} [DecidableEq α] : ∀ (l m : List α), l.Nodup → (∀ x ∈ l, x ∈ m) → l.length ≤ m.length
  | [], m, _, _ => Nat.zero_le _
  | x :: l, m, hn, hs => by
    have hx := hs x (by simp)
    obtain ⟨hxl, hl⟩ := List.nodup_cons.1 hn
    have ih := pigeon l (m.erase x) hl (fun y hy => by
      have hne : y ≠ x := fun e => hxl (e ▸ hy)
      exact (List.mem_erase_of_ne hne).2 (hs y (by simp [hy])))
    rw [List.length_erase_of_mem hx] at ih
    have : 0 < m.length := List.length_pos_of_mem hx
    simp only [List.length_cons]
    omega
section
variable {D : PD} {m : Nat} {P : Nat → ByteArray} {k : Nat} {Q : Nat → ByteArray} (h : RS D m P k Q)
include h
theorem rt_inj {i j : Nat} (hi : i < m) (hj : j < m) (e : P i = P j) : i = j := by
  have key : ∀ a b, a < b → b < m → P a = P b → False := fun a b hab hb e => by
    have h1 := (h.2.2 b hb).1.2.1
    rw [has_yes hab ((eqB_iff _ _).2 e)] at h1
    cases h1
  rcases Nat.lt_trichotomy i j with h1 | h1 | h1
  · exact (key i j h1 hj e).elim
  · exact h1
  · exact (key j i h1 hi e.symm).elim
theorem rt_place {i : Nat} (hi : i < m) : ∃ a, a < D.np ∧ (D.fp a).1 = P i := by
  obtain ⟨a, ha, _, _, e⟩ := place_ix (cap_place (h.2.2 i hi).1.1)
  exact ⟨a, ha, (eqB_iff _ _).1 e⟩
theorem rt_valve {i : Nat} (hi : i < k) : ∃ a, a < D.nv ∧ (D.fv a).1 = Q i := by
  have h1 := (h.2.2 (i + 1) (by have := h.1; omega)).2 (by omega)
  rw [Nat.add_sub_cancel] at h1
  obtain ⟨a, ha, _, _, e⟩ := val_ix (join_val h1)
  exact ⟨a, ha, (eqB_iff _ _).1 e⟩
theorem rt_len : m ≤ D.np := by
  have h1 := pigeon ((List.range m).map P) ((List.range D.np).map fun a => (D.fp a).1) (by
    rw [List.nodup_iff_pairwise_ne, List.pairwise_map]
    refine List.pairwise_lt_range.imp_of_mem (fun {a b} ha hb hab e => ?_)
    have := rt_inj h (List.mem_range.1 ha) (List.mem_range.1 hb) e
    omega) (fun x hx => by
    obtain ⟨i, hi, rfl⟩ := List.mem_map.1 hx
    obtain ⟨a, ha, e⟩ := rt_place h (List.mem_range.1 hi)
    exact List.mem_map.2 ⟨a, List.mem_range.2 ha, e⟩)
  simpa using h1
end

/-- Uses that ascend by their names. -/
def AscU (l : List DClaimUse) : Prop := l.Pairwise fun a b => ltB a.1 b.1 = true
theorem insU_asc : ∀ (l : List DClaimUse) (x : DClaimUse), AscU l → (∀ y ∈ l, y.1 ≠ x.1) → AscU (insU l x)
  | [], x, _, _ => List.pairwise_singleton _ _
  | y :: l, x, ha, hn => by
    obtain ⟨h1, h2⟩ := List.pairwise_cons.1 ha
    unfold insU
    split
    · rename_i hlt
      refine List.pairwise_cons.2 ⟨fun z hz => ?_, insU_asc l x h2 (fun z hz => hn z (List.mem_cons_of_mem _ hz))⟩
      rcases (insU_mem l x z).1 hz with hz | hz
      · exact h1 z hz
      · rw [hz]; exact hlt
    · rename_i hlt
      have hxy : ltB x.1 y.1 = true := by
        refine ltB_tri (by simpa using hlt) ?_
        cases e : eqB y.1 x.1
        · rfl
        · exact absurd ((eqB_iff _ _).1 e) (hn y List.mem_cons_self)
      refine List.pairwise_cons.2 ⟨fun z hz => ?_, ha⟩
      rcases List.mem_cons.1 hz with e | hz
      · rw [e]; exact hxy
      · exact ltB_trans hxy (h1 z hz)
theorem eq_of_names : ∀ l r : List DClaimUse, l.map (·.1) = r.map (·.1) → (∀ x ∈ l, ∀ y ∈ r, x.1 = y.1 → x = y) → l = r
  | [], [], _, _ => rfl
  | [], _ :: _, e, _ => by cases e
  | _ :: _, [], e, _ => by cases e
  | x :: l, y :: r, e, h => by
    simp only [List.map_cons, List.cons.injEq] at e
    rw [h x List.mem_cons_self y List.mem_cons_self e.1, eq_of_names l r e.2 (fun a ha b hb => h a (List.mem_cons_of_mem _ ha) b (List.mem_cons_of_mem _ hb))]
section
variable {D : PD} (hV : D.V) {m : Nat} {P : Nat → ByteArray} {k : Nat} {Q : Nat → ByteArray} (h : RS D m P k Q)
include h
theorem usS_asc (am : Int) : ∀ i, i ≤ m → AscU (usS m P am i)
  | 0, _ => List.Pairwise.nil
  | i + 1, hi => by
    rw [usS_succ]
    refine insU_asc _ _ (usS_asc am i (by omega)) (fun y hy e => ?_)
    obtain ⟨j, hj, rfl⟩ := (usS_mem m P am y i).1 hy
    have := rt_inj h (i := j) (j := i) (by omega) (by omega) e
    omega
theorem usI_name {am : Int} {x y : DClaimUse} (hx : ∃ j, j < m ∧ x = usI m P am j) (hy : ∃ j, j < m ∧ y = usI m P am j) (e : x.1 = y.1) : x = y := by
  obtain ⟨i, hi, rfl⟩ := hx
  obtain ⟨j, hj, rfl⟩ := hy
  rw [rt_inj h hi hj e]
include hV
theorem uses_sameR (am : Int) (st : ByteArray) : tkU (usR m P am m) (plA D st D.np) = usL D st (usS m P am m) := by
  have mem1 : ∀ x, x ∈ tkU (usR m P am m) (plA D st D.np) ↔ (∃ j, j < m ∧ x = usI m P am j) ∧ stP D x.1 = st := fun x => by
    unfold tkU takU plA
    rw [List.mem_flatMap]
    constructor
    · rintro ⟨y, hy, hx⟩
      obtain ⟨a, ha, rfl⟩ := List.mem_map.1 hy
      have ha := List.mem_filter.1 ha
      have hx := List.mem_filter.1 hx
      obtain ⟨j, hj, e⟩ := List.mem_map.1 hx.1
      refine ⟨⟨j, List.mem_range.1 hj, e.symm⟩, ?_⟩
      rw [(eqB_iff _ _).1 hx.2, stP_at hV (List.mem_range.1 ha.1)]
      exact (eqB_iff _ _).1 ha.2
    · rintro ⟨⟨j, hj, rfl⟩, hs⟩
      obtain ⟨a, ha, e⟩ := rt_place h hj
      have e' : (usI m P am j).1 = (D.fp a).1 := e.symm
      refine ⟨D.fp a, List.mem_map.2 ⟨a, List.mem_filter.2 ⟨List.mem_range.2 ha, ?_⟩, rfl⟩, List.mem_filter.2 ⟨List.mem_map.2 ⟨j, List.mem_range.2 hj, rfl⟩, (eqB_iff _ _).2 e'⟩⟩
      rw [e', stP_at hV ha] at hs
      exact (eqB_iff _ _).2 hs
  have mem2 : ∀ x, x ∈ usL D st (usS m P am m) ↔ (∃ j, j < m ∧ x = usI m P am j) ∧ stP D x.1 = st := fun x => by
    unfold usL
    rw [List.mem_filter, usS_mem, eqB_iff]
  have asc1 : AscU (tkU (usR m P am m) (plA D st D.np)) := by
    have hn : (usR m P am m).Pairwise fun a b => a.1 ≠ b.1 := by
      unfold usR
      rw [List.pairwise_map]
      refine List.pairwise_lt_range.imp_of_mem (fun {a b} ha hb hab e => ?_)
      have := rt_inj h (List.mem_range.1 ha) (List.mem_range.1 hb) e
      omega
    have hp : (plA D st D.np).Pairwise fun a b => ltB a.1 b.1 = true := by
      have := asc_ix (pl_asc hV) (fun i => eqB (D.fp i).2.2 st)
      rw [← plA_names] at this
      exact List.pairwise_map.1 this
    unfold AscU tkU
    rw [List.pairwise_flatMap]
    refine ⟨fun y _ => ?_, hp.imp (fun {a b} hab x hx y hy => ?_)⟩
    · unfold takU
      refine (List.Pairwise.sublist List.filter_sublist hn).imp_of_mem (fun {a b} ha hb hne => ?_)
      exact absurd (((eqB_iff _ _).1 (List.mem_filter.1 ha).2).trans ((eqB_iff _ _).1 (List.mem_filter.1 hb).2).symm) hne
    · rw [(eqB_iff _ _).1 (List.mem_filter.1 hx).2, (eqB_iff _ _).1 (List.mem_filter.1 hy).2]
      exact hab
  have asc2 : AscU (usL D st (usS m P am m)) := List.Pairwise.sublist List.filter_sublist (usS_asc h am m (Nat.le_refl _))
  refine eq_of_names _ _ ?_ (fun x hx y hy e => usI_name h ((mem1 x).1 hx).1 ((mem2 y).1 hy).1 e)
  refine asc_unique _ _ (List.pairwise_map.2 asc1) (List.pairwise_map.2 asc2) (fun y => ?_)
  rw [List.mem_map, List.mem_map]
  constructor
  · rintro ⟨x, hx, e⟩; exact ⟨x, (mem2 x).2 ((mem1 x).1 hx), e⟩
  · rintro ⟨x, hx, e⟩; exact ⟨x, (mem1 x).2 ((mem2 x).1 hx), e⟩
end
/-- Valves of a plant, shared out by its order. -/
theorem vals_sameR {D : PD} (hV : D.V) {l r : List ByteArray} (hr : AscL r) (hm : ∀ y, y ∈ r ↔ y ∈ l) (hin : ∀ x ∈ l, ∃ a, a < D.nv ∧ (D.fv a).1 = x) (st : ByteArray) : tkV l (vlA D st D.nv) = opL D st r := by
  rw [tkV_filter]
  unfold opL
  refine asc_unique _ _ (asc_filter (asc_ix (va_asc hV) _) _) (asc_filter hr _) (fun x => ?_)
  rw [List.mem_filter, List.mem_filter, hasL_iff, hm, eqB_iff]
  constructor
  · rintro ⟨hx, hs⟩
    obtain ⟨i, hi, rfl⟩ := List.mem_map.1 hx
    have hi := List.mem_filter.1 hi
    refine ⟨hs, ?_⟩
    rw [stV_at hV (List.mem_range.1 hi.1)]
    exact (eqB_iff _ _).1 hi.2
  · rintro ⟨hx, hs⟩
    obtain ⟨a, ha, rfl⟩ := hin x hx
    refine ⟨List.mem_map.2 ⟨a, List.mem_filter.2 ⟨List.mem_range.2 ha, ?_⟩, rfl⟩, hx⟩
    rw [← stV_at hV ha, hs]
    exact (eqB_iff _ _).2 rfl
theorem gd_in {D : PD} {m : Nat} {P : Nat → ByteArray} {k : Nat} {Q : Nat → ByteArray} {x : ByteArray} (hx : x ∈ gdN D m P k Q D.nv) : ∃ a, a < D.nv ∧ (D.fv a).1 = x := by
  obtain ⟨i, hi, rfl⟩ := List.mem_map.1 hx
  exact ⟨i, List.mem_range.1 (List.mem_filter.1 hi).1, rfl⟩
theorem share_sameR {D : PD} (hV : D.V) {m : Nat} {P : Nat → ByteArray} {k : Nat} {Q : Nat → ByteArray} (h : RS D m P k Q) (num am : Int) (ts : List ByteArray) : shrL D (num, 1, ts, usR m P am m, (List.range k).map Q, gdN D m P k Q D.nv) (stnL D) = askL D (rtD D num am m P k Q ts) (stL true D) := by
  have e : ∀ st, shD D st (num, 1, ts, usR m P am m, (List.range k).map Q, gdN D m P k Q D.nv) = ofD D st (rtD D num am m P k Q ts) := fun st => by
    show ((num, 1, ts, tkU (usR m P am m) (plA D st D.np), tkV ((List.range k).map Q) (vlA D st D.nv), tkV (gdN D m P k Q D.nv) (vlA D st D.nv)) : DClaimWant) = (num, 1, ts, usL D st (usS m P am m), opL D st (insA ((List.range k).map Q)), opL D st (gdN D m P k Q D.nv))
    rw [uses_sameR hV h, vals_sameR hV (insA_both _).1 (insA_both _).2 (fun x hx => by
      obtain ⟨i, hi, rfl⟩ := List.mem_map.1 hx
      exact rt_valve h (List.mem_range.1 hi)), vals_sameR hV (r := gdN D m P k Q D.nv) (asc_ix (va_asc hV) _) (fun _ => Iff.rfl) (fun x hx => gd_in hx)]
  unfold shrL askL
  show (((stnL D).filter _).map _) = (((stnL D).filter _).map _)
  simp only [e]

end Go.Proofs.YtndacfockllehaaGreat
