/-
  Ways through a plant, as plain lists: how a way goes on, which ways come to their end and which go on, round by round; why there are few of them, and why after as many rounds as there are places none goes on. No program is named here.
-/
import Derived.Test.YtnpfnbgbodojnabRw
import Derived.Test.YtnpfnbgbodojnabRv
namespace Go.Proofs.Ytnpfnbgbodojnab
open Go.RowKit

/-- A way: its places, and the valves between them. -/
abbrev RT := List ByteArray × List ByteArray
def lasB (r : RT) : ByteArray := nthB r.1 (r.1.length - 1)
def nexB (D : PD) (r : RT) (i : Nat) : ByteArray := behS (D.fv i) (lasB r)
/-- Valve i leads on from a way, to a place that was not passed. -/
def okV (D : PD) (r : RT) (i : Nat) : Bool := endB (D.fv i) (lasB r) && !hasB r.1.length (nthB r.1) (nexB D r i)
def exV (D : PD) (r : RT) (i : Nat) : RT := (r.1 ++ [nexB D r i], r.2 ++ [(D.fv i).1])
def exN (D : PD) (r : RT) (k : Nat) : List RT := ((List.range k).filter (okV D r)).map (exV D r)
theorem exN_yes {D : PD} {r : RT} {k : Nat} (h : okV D r k = true) : exN D r (k + 1) = exN D r k ++ [exV D r k] := by
  simp [exN, List.range_succ, List.filter_append, h]
theorem exN_no {D : PD} {r : RT} {k : Nat} (h : okV D r k = false) : exN D r (k + 1) = exN D r k := by
  simp [exN, List.range_succ, List.filter_append, h]
theorem exN_len (D : PD) (r : RT) (k : Nat) : (exN D r k).length ≤ k := by
  simp only [exN, List.length_map]
  exact Nat.le_trans (List.length_filter_le _ _) (by simp)
theorem las_ex (D : PD) (r : RT) (i : Nat) : lasB (exV D r i) = nexB D r i := by
  simp [lasB, exV, nthB]
def toB (to : ByteArray) (r : RT) : Bool := eqB (lasB r) to
def jtB (D : PD) (r : RT) : Bool := joiB D.np D.fp (lasB r)
def goB (D : PD) (to : ByteArray) (r : RT) : Bool := !toB to r && jtB D r
/-- Of all ways made longer: those that come to the end, and those that go on. -/
def enW (D : PD) (to : ByteArray) (ws : List RT) : List RT := ws.flatMap fun w => (exN D w D.nv).filter (toB to)
def otW (D : PD) (to : ByteArray) (ws : List RT) : List RT := ws.flatMap fun w => (exN D w D.nv).filter (goB D to)
def wayR (D : PD) (fr to : ByteArray) : Nat → List RT
  | 0 => [([fr], [])]
  | q + 1 => otW D to (wayR D fr to q)
def endR (D : PD) (fr to : ByteArray) : Nat → List RT
  | 0 => []
  | q + 1 => endR D fr to q ++ enW D to (wayR D fr to q)
def rtL (b : Bool) (D : PD) (fr to : ByteArray) : List RT := bif b then (endR D fr to D.np).take 30 else []

theorem has_anyW (L : List ByteArray) (y : ByteArray) : hasB L.length (nthB L) y = L.any (fun z => eqB z y) := by
  rw [Bool.eq_iff_iff, any_mem]
  unfold hasB
  rw [List.any_eq_true]
  constructor
  · rintro ⟨i, hi, he⟩
    rw [← (eqB_iff _ _).1 he]
    have := List.mem_range.1 hi
    exact List.mem_of_getElem? (i := i) (by simp [nthB, this])
  · intro h
    obtain ⟨j, hj, e⟩ := List.mem_iff_getElem.1 h
    exact ⟨j, List.mem_range.2 hj, by rw [eqB_iff]; simp [nthB, hj, e]⟩
theorem has_mem (L : List ByteArray) (y : ByteArray) : hasB L.length (nthB L) y = true ↔ y ∈ L := by rw [has_anyW]; exact any_mem L y

theorem las_mem {r : RT} (h : 0 < r.1.length) : lasB r ∈ r.1 := List.mem_of_getElem? (i := r.1.length - 1) (by simp [lasB, nthB, show r.1.length - 1 < r.1.length by omega])
theorem las_drop {r : RT} (h : 0 < r.1.length) : r.1 = r.1.dropLast ++ [lasB r] := by
  have hne : r.1 ≠ [] := by intro e; rw [e] at h; simp at h
  conv => lhs; rw [← List.dropLast_concat_getLast hne]
  congr 2
  rw [List.getLast_eq_getElem]
  simp [lasB, nthB, show r.1.length - 1 < r.1.length by omega]

theorem end_cases {g : ByteArray × ByteArray × ByteArray × ByteArray} {x : ByteArray} (h : endB g x = true) : (x = g.2.1 ∧ behS g x = g.2.2.1) ∨ (x = g.2.2.1 ∧ behS g x = g.2.1) := by
  unfold endB at h
  unfold behS
  cases h1 : eqB x g.2.1
  · cases h2 : eqB x g.2.2.1
    · rw [h1, h2] at h; cases h
    · exact .inr ⟨(eqB_iff _ _).1 h2, rfl⟩
  · exact .inl ⟨(eqB_iff _ _).1 h1, rfl⟩

/-- What holds of a way of q valves. -/
structure Way (D : PD) (fr : ByteArray) (r : RT) (q : Nat) : Prop where
  len : r.1.length = q + 1
  vlen : r.2.length = q
  nod : r.1.Nodup
  fst : fr ∈ r.1
  pl : ∀ x ∈ r.1, 0 ≤ placeI D.np D.fp x
  vs : ∀ x ∈ r.2, x.size ≤ 8

theorem Way.first {D : PD} {fr : ByteArray} (h : 0 ≤ placeI D.np D.fp fr) : Way D fr ([fr], []) 0 :=
  ⟨rfl, rfl, by simp, by simp, fun x hx => by simp at hx; rw [hx]; exact h, fun x hx => by simp at hx⟩

theorem next_place {D : PD} (hV : D.V) {r : RT} {i : Nat} (hi : i < D.nv) (h : endB (D.fv i) (lasB r) = true) : 0 ≤ placeI D.np D.fp (nexB D r i) := by
  have hv := hV.2.2.2 i hi
  have h1 := hv.2.2.2.1
  have h2 := hv.2.2.2.2.1
  simp only [decide_eq_false_iff_not, Int.not_lt] at h1 h2
  unfold nexB
  rcases end_cases h with ⟨_, e⟩ | ⟨_, e⟩
  · rw [e]; exact h2
  · rw [e]; exact h1

theorem Way.next {D : PD} (hV : D.V) {fr : ByteArray} {r : RT} {q i : Nat} (h : Way D fr r q) (hi : i < D.nv) (hok : okV D r i = true) : Way D fr (exV D r i) (q + 1) := by
  unfold okV at hok
  simp only [Bool.and_eq_true, Bool.not_eq_true'] at hok
  have hnm : nexB D r i ∉ r.1 := fun hm => by rw [(has_mem _ _).2 hm] at hok; cases hok.2
  refine ⟨by simp [exV, h.len], by simp [exV, h.vlen], ?_, ?_, ?_, ?_⟩
  · unfold exV
    rw [List.nodup_append]
    exact ⟨h.nod, by simp, fun a ha b hb => by simp at hb; subst hb; exact fun e => hnm (e ▸ ha)⟩
  · unfold exV; exact List.mem_append_left _ h.fst
  · intro x hx
    unfold exV at hx
    rcases List.mem_append.1 hx with h1 | h1
    · exact h.pl x h1
    · simp at h1; rw [h1]; exact next_place hV hi hok.1
  · intro x hx
    unfold exV at hx
    rcases List.mem_append.1 hx with h1 | h1
    · exact h.vs x h1
    · simp at h1; rw [h1]; exact (V_sizes hV i hi).1

theorem mem_exN {D : PD} {r e : RT} {k : Nat} (h : e ∈ exN D r k) : ∃ i, i < k ∧ okV D r i = true ∧ e = exV D r i := by
  unfold exN at h
  obtain ⟨i, hi, rfl⟩ := List.mem_map.1 h
  obtain ⟨h1, h2⟩ := List.mem_filter.1 hi
  exact ⟨i, List.mem_range.1 h1, h2, rfl⟩
theorem Way.all {D : PD} (hV : D.V) {fr : ByteArray} {r e : RT} {q : Nat} (h : Way D fr r q) (he : e ∈ exN D r D.nv) : Way D fr e (q + 1) := by
  obtain ⟨i, hi, hok, rfl⟩ := mem_exN he
  exact h.next hV hi hok

theorem wayR_ways {D : PD} (hV : D.V) {fr to : ByteArray} (hf : 0 ≤ placeI D.np D.fp fr) : ∀ q, ∀ r ∈ wayR D fr to q, Way D fr r q
  | 0, r, h => by simp [wayR] at h; rw [h]; exact Way.first hf
  | q + 1, r, h => by
    unfold wayR otW at h
    obtain ⟨w, hw, hr⟩ := List.mem_flatMap.1 h
    exact (wayR_ways hV hf q w hw).all hV (List.mem_filter.1 hr).1
theorem endR_ways {D : PD} (hV : D.V) {fr to : ByteArray} (hf : 0 ≤ placeI D.np D.fp fr) : ∀ q, ∀ r ∈ endR D fr to q, ∃ k, k ≤ q ∧ 1 ≤ k ∧ Way D fr r k
  | 0, r, h => by simp [endR] at h
  | q + 1, r, h => by
    unfold endR at h
    rcases List.mem_append.1 h with h1 | h1
    · obtain ⟨k, h2, h3, h4⟩ := endR_ways hV hf q r h1
      exact ⟨k, by omega, h3, h4⟩
    · unfold enW at h1
      obtain ⟨w, hw, hr⟩ := List.mem_flatMap.1 h1
      exact ⟨q + 1, Nat.le_refl _, by omega, (wayR_ways hV hf q w hw).all hV (List.mem_filter.1 hr).1⟩

theorem Way.short {D : PD} {fr : ByteArray} {r : RT} {q : Nat} (h : Way D fr r q) : q + 1 ≤ D.np := by
  have := nodup_le r.1 ((List.range D.np).map fun i => (D.fp i).1) h.nod (fun y hy => by
    have hp := h.pl y hy
    unfold placeI at hp
    cases hf : (List.range D.np).find? (fun i => eqB (D.fp i).1 y) with
    | none => rw [hf] at hp; simp at hp
    | some i =>
      have h1 := List.find?_some hf
      have h2 := List.mem_of_find?_eq_some hf
      exact List.mem_map.2 ⟨i, h2, (eqB_iff _ _).1 h1⟩)
  rw [h.len] at this
  simpa using this
theorem wayR_end {D : PD} (hV : D.V) {fr to : ByteArray} (hf : 0 ≤ placeI D.np D.fp fr) : wayR D fr to D.np = [] := by
  cases h : wayR D fr to D.np with
  | nil => rfl
  | cons r l =>
    have := (wayR_ways hV hf D.np r (by rw [h]; exact List.mem_cons_self)).short
    omega

theorem wayR_nil {D : PD} {fr to : ByteArray} {q : Nat} (h : wayR D fr to q = []) : ∀ k, wayR D fr to (q + k) = [] ∧ endR D fr to (q + k) = endR D fr to q
  | 0 => ⟨h, rfl⟩
  | k + 1 => by
    obtain ⟨h1, h2⟩ := wayR_nil h k
    constructor
    · show otW D to (wayR D fr to (q + k)) = []; rw [h1]; rfl
    · show endR D fr to (q + k) ++ enW D to (wayR D fr to (q + k)) = _; rw [h1, h2]; simp [enW]
theorem endR_pre (D : PD) (fr to : ByteArray) (q : Nat) : ∀ k, endR D fr to q <+: endR D fr to (q + k)
  | 0 => List.prefix_refl _
  | k + 1 => (endR_pre D fr to q k).trans (List.prefix_append _ _)
theorem end_take {D : PD} {fr to : ByteArray} {q : Nat} (hq : q ≤ D.np) (h : wayR D fr to q = [] ∨ 30 ≤ (endR D fr to q).length ∨ q = D.np) : (endR D fr to q).take 30 = (endR D fr to D.np).take 30 := by
  obtain ⟨k, hk⟩ : ∃ k, D.np = q + k := ⟨D.np - q, by omega⟩
  rcases h with h | h | h
  · rw [hk, (wayR_nil h k).2]
  · obtain ⟨t, ht⟩ := endR_pre D fr to q k
    rw [hk, ← ht, List.take_append_of_le_length h]
  · rw [h]
theorem end_same {D : PD} (hV : D.V) {fr to : ByteArray} (hf : 0 ≤ placeI D.np D.fp fr) (he : fr = to) : ∀ q, endR D fr to q = []
  | 0 => rfl
  | q + 1 => by
    unfold endR
    rw [end_same hV hf he q]
    simp only [List.nil_append, enW, List.flatMap_eq_nil_iff, List.filter_eq_nil_iff]
    intro w hw e hee ht
    obtain ⟨i, hi, hok, rfl⟩ := mem_exN hee
    have hn := (wayR_ways hV hf q w hw).next hV hi hok
    unfold toB at ht
    rw [las_ex] at ht
    have e1 := (eqB_iff _ _).1 ht
    unfold okV at hok
    simp only [Bool.and_eq_true, Bool.not_eq_true'] at hok
    have hm := (wayR_ways hV hf q w hw).fst
    rw [he, ← e1] at hm
    rw [(has_mem _ _).2 hm] at hok
    cases hok.2

-- How many ways there are.
def inP (ps : List ByteArray) (y : ByteArray) : Bool := ps.any fun z => eqB z y
theorem inP_iff (ps : List ByteArray) (y : ByteArray) : inP ps y = true ↔ y ∈ ps := any_mem ps y
def offB (D : PD) (ps : List ByteArray) (i : Nat) : Bool := !inP ps (D.fv i).2.1 && !inP ps (D.fv i).2.2.1
theorem off_iff (D : PD) (ps : List ByteArray) (i : Nat) : offB D ps i = true ↔ (D.fv i).2.1 ∉ ps ∧ (D.fv i).2.2.1 ∉ ps := by
  unfold offB
  simp only [Bool.and_eq_true, Bool.not_eq_true', ← Bool.not_eq_true, inP_iff]
def freC (D : PD) (ps : List ByteArray) : Nat := (List.range D.nv).countP (offB D ps)
def wei (D : PD) (ws : List RT) : Nat := (ws.map fun r => 2 ^ freC D r.1.dropLast).sum
theorem count_two (p q r : Nat → Bool) : ∀ l : List Nat, (∀ i ∈ l, p i = true → r i = true) → (∀ i ∈ l, q i = true → r i = true) → (∀ i ∈ l, p i = true → q i = true → False) → l.countP p + l.countP q ≤ l.countP r
  | [], _, _, _ => by simp
  | i :: l, h1, h2, h3 => by
    have ih := count_two p q r l (fun j hj => h1 j (List.mem_cons_of_mem _ hj)) (fun j hj => h2 j (List.mem_cons_of_mem _ hj)) (fun j hj => h3 j (List.mem_cons_of_mem _ hj))
    have a1 := h1 i List.mem_cons_self
    have a2 := h2 i List.mem_cons_self
    have a3 := h3 i List.mem_cons_self
    simp only [List.countP_cons]
    cases hp : p i <;> cases hq : q i <;> cases hr : r i <;> simp_all <;> omega
theorem fre_step {D : PD} {r : RT} (h0 : 0 < r.1.length) (hn : r.1.Nodup) : (List.range D.nv).countP (okV D r) + freC D r.1 ≤ freC D r.1.dropLast := by
  have hd := las_drop h0
  refine count_two _ _ _ _ (fun i _ h => ?_) (fun i _ h => ?_) (fun i _ h h' => ?_)
  · rw [off_iff]
    unfold okV at h
    simp only [Bool.and_eq_true, Bool.not_eq_true'] at h
    have hnm : nexB D r i ∉ r.1 := fun hm => by rw [(has_mem _ _).2 hm] at h; cases h.2
    have hl : lasB r ∉ r.1.dropLast := by
      rw [hd, List.nodup_append] at hn
      exact fun hm => hn.2.2 _ hm _ (by simp) rfl
    have hsub : ∀ y, y ∉ r.1 → y ∉ r.1.dropLast := fun y hy hm => hy (by rw [hd]; exact List.mem_append_left _ hm)
    unfold nexB at hnm
    rcases end_cases h.1 with ⟨e1, e2⟩ | ⟨e1, e2⟩
    · rw [e2] at hnm; rw [← e1]; exact ⟨hl, hsub _ hnm⟩
    · rw [e2] at hnm; rw [← e1]; exact ⟨hsub _ hnm, hl⟩
  · rw [off_iff] at h ⊢
    exact ⟨fun hm => h.1 (by rw [hd]; exact List.mem_append_left _ hm), fun hm => h.2 (by rw [hd]; exact List.mem_append_left _ hm)⟩
  · rw [off_iff] at h'
    unfold okV at h
    simp only [Bool.and_eq_true] at h
    have hm := las_mem h0
    rcases end_cases h.1 with ⟨e1, _⟩ | ⟨e1, _⟩
    · rw [e1] at hm; exact h'.1 hm
    · rw [e1] at hm; exact h'.2 hm
theorem wei_append (D : PD) (a b : List RT) : wei D (a ++ b) = wei D a + wei D b := by simp [wei]
theorem wei_cons (D : PD) (a : RT) (b : List RT) : wei D (a :: b) = 2 ^ freC D a.1.dropLast + wei D b := by simp [wei]
theorem wei_len (D : PD) : ∀ ws : List RT, ws.length ≤ wei D ws
  | [] => by simp
  | r :: ws => by
    have := wei_len D ws
    have : 0 < 2 ^ freC D r.1.dropLast := Nat.two_pow_pos _
    rw [wei_cons, List.length_cons]; omega
theorem wei_sub (D : PD) {a b : List RT} (h : a.Sublist b) : wei D a ≤ wei D b := by
  induction h with
  | slnil => simp
  | cons x _ ih => rw [wei_cons]; exact Nat.le_trans ih (Nat.le_add_left _ _)
  | cons_cons x _ ih => rw [wei_cons, wei_cons]; exact Nat.add_le_add_left ih _
theorem wei_const (D : PD) (c : Nat) : ∀ ws : List RT, (∀ e ∈ ws, freC D e.1.dropLast = c) → wei D ws = ws.length * 2 ^ c
  | [], _ => by simp [wei]
  | e :: ws, h => by
    rw [wei_cons, wei_const D c ws (fun x hx => h x (List.mem_cons_of_mem _ hx)), h e List.mem_cons_self, List.length_cons, Nat.succ_mul]; omega
theorem wei_ext {D : PD} {r : RT} (h0 : 0 < r.1.length) (hn : r.1.Nodup) : wei D (exN D r D.nv) ≤ 2 ^ freC D r.1.dropLast := by
  have hl : (exN D r D.nv).length = (List.range D.nv).countP (okV D r) := by
    simp [exN, List.countP_eq_length_filter]
  rw [wei_const D (freC D r.1) _ (fun e he => by
    obtain ⟨i, _, _, rfl⟩ := mem_exN he
    simp [exV])]
  have hs := fre_step (D := D) h0 hn
  rw [← hl] at hs
  generalize (exN D r D.nv).length = k at *
  calc k * 2 ^ freC D r.1 ≤ 2 ^ k * 2 ^ freC D r.1 := Nat.mul_le_mul_right _ (Nat.le_of_lt Nat.lt_two_pow_self)
    _ = 2 ^ (k + freC D r.1) := (Nat.pow_add _ _ _).symm
    _ ≤ _ := Nat.pow_le_pow_right (by omega) hs
theorem wei_flat {D : PD} (p : RT → Bool) : ∀ ws : List RT, (∀ r ∈ ws, 0 < r.1.length ∧ r.1.Nodup) → wei D (ws.flatMap fun w => (exN D w D.nv).filter p) ≤ wei D ws
  | [], _ => by simp [wei]
  | r :: ws, h => by
    have ih := wei_flat (D := D) p ws (fun x hx => h x (List.mem_cons_of_mem _ hx))
    obtain ⟨h0, hn⟩ := h r List.mem_cons_self
    have := wei_ext (D := D) h0 hn
    have := wei_sub D (List.filter_sublist (p := p) (l := exN D r D.nv))
    rw [List.flatMap_cons, wei_append, wei_cons]; omega
theorem wei_first (D : PD) (hV : D.V) (fr : ByteArray) : wei D [([fr], [])] ≤ 262144 := by
  rw [wei_const D (freC D []) _ (fun e he => by simp at he; rw [he]; rfl)]
  have : freC D [] ≤ 18 := Nat.le_trans (Nat.le_trans List.countP_le_length (by simp)) hV.2.2.1
  have := Nat.pow_le_pow_right (show 0 < 2 by omega) this
  simp; omega
theorem Way.good {D : PD} {fr : ByteArray} {r : RT} {q : Nat} (h : Way D fr r q) : 0 < r.1.length ∧ r.1.Nodup := ⟨by have := h.len; omega, h.nod⟩
theorem wei_ways {D : PD} (hV : D.V) {fr to : ByteArray} (hf : 0 ≤ placeI D.np D.fp fr) : ∀ q, wei D (wayR D fr to q) ≤ 262144
  | 0 => wei_first D hV fr
  | q + 1 => Nat.le_trans (wei_flat _ _ (fun r hr => (wayR_ways hV hf q r hr).good)) (wei_ways hV hf q)

/-- Of the ways ahead of way j all, of way j those by the first k valves: never many. -/
def midW (D : PD) (p : RT → Bool) (ws : List RT) (j k : Nat) : List RT := ((ws.take j).flatMap fun w => (exN D w D.nv).filter p) ++ (match ws[j]? with | some w => (exN D w k).filter p | none => [])
theorem exN_pre (D : PD) (r : RT) {k n : Nat} (h : k ≤ n) : exN D r k <+: exN D r n := by
  induction n with
  | zero => have : k = 0 := by omega
            subst this; exact List.prefix_refl _
  | succ n ih =>
    by_cases e : k = n + 1
    · subst e; exact List.prefix_refl _
    · refine (ih (by omega)).trans ?_
      cases h : okV D r n
      · rw [exN_no h]; exact List.prefix_refl _
      · rw [exN_yes h]; exact List.prefix_append _ _
theorem flat_pre (p : RT → List RT) (ws : List RT) (j : Nat) : (ws.take j).flatMap p ++ (match ws[j]? with | some w => p w | none => []) = (ws.take (j + 1)).flatMap p := by
  rw [List.take_add_one, List.flatMap_append]
  cases ws[j]? <;> simp
theorem flat_take (p : RT → List RT) (ws : List RT) (j : Nat) : ((ws.take j).flatMap p).Sublist (ws.flatMap p) := by
  conv => rhs; rw [← List.take_append_drop j ws, List.flatMap_append]
  exact List.sublist_append_left _ _
theorem mid_len (D : PD) (p : RT → Bool) (ws : List RT) (hw : ∀ r ∈ ws, 0 < r.1.length ∧ r.1.Nodup) (hz : wei D ws ≤ 262144) (j : Nat) (pre : List RT) (hp : ∀ w, ws[j]? = some w → pre <+: exN D w D.nv) (hn : ws[j]? = none → pre = []) :
    (((ws.take j).flatMap fun w => (exN D w D.nv).filter p) ++ pre.filter p).length ≤ 262144 := by
  have h1 : (((ws.take j).flatMap fun w => (exN D w D.nv).filter p) ++ pre.filter p).Sublist (ws.flatMap fun w => (exN D w D.nv).filter p) := by
    refine List.Sublist.trans ?_ (flat_take (fun w => (exN D w D.nv).filter p) ws (j + 1))
    rw [← flat_pre]
    refine (List.Sublist.refl _).append ?_
    cases h : ws[j]? with
    | none => rw [hn h]; simp
    | some w => exact ((hp w h).sublist).filter p
  have h2 := wei_sub D h1
  have h3 := wei_flat (D := D) p ws hw
  exact Nat.le_trans (wei_len D _) (by omega)

-- The model's ways on.
def okM (D : PD) (to : ByteArray) (r : RT) (i : Nat) : Bool := !(eqB (nexB D r i) ⟨#[]⟩) && (!hasB r.1.length (nthB r.1) (nexB D r i) && (eqB (nexB D r i) to || !decide (0 < capI D.np D.fp (nexB D r i))))
def onM (D : PD) (to : ByteArray) (r : RT) (k : Nat) : List RT := ((List.range k).filter (okM D to r)).map (exV D r)
theorem onM_yes {D : PD} {to : ByteArray} {r : RT} {k : Nat} (h : okM D to r k = true) : onM D to r (k + 1) = onM D to r k ++ [exV D r k] := by
  simp [onM, List.range_succ, List.filter_append, h]
theorem onM_no {D : PD} {to : ByteArray} {r : RT} {k : Nat} (h : okM D to r k = false) : onM D to r (k + 1) = onM D to r k := by
  simp [onM, List.range_succ, List.filter_append, h]
theorem onM_len (D : PD) (to : ByteArray) (r : RT) (k : Nat) : (onM D to r k).length ≤ k := by
  simp only [onM, List.length_map]
  exact Nat.le_trans (List.length_filter_le _ _) (by simp)
theorem cap_of_place {D : PD} (hV : D.V) {x : ByteArray} (h : 0 ≤ placeI D.np D.fp x) : 0 ≤ capI D.np D.fp x := by
  unfold capI
  rw [if_neg (by omega)]
  unfold placeI at h ⊢
  cases hf : (List.range D.np).find? (fun i => eqB (D.fp i).1 x) with
  | none => rw [hf] at h; simp at h
  | some i =>
    have h2 := List.mem_range.1 (List.mem_of_find?_eq_some hf)
    have := (hV.2.1.2 i h2).2.2.1
    unfold inB at this
    simp only [decide_eq_true_eq] at this
    simpa using this.1
theorem okM_eq {D : PD} (hV : D.V) (to : ByteArray) (r : RT) {i : Nat} (hi : i < D.nv) : okM D to r i = (okV D r i && (toB to (exV D r i) || goB D to (exV D r i))) := by
  unfold okM okV toB goB toB jtB
  rw [las_ex]
  cases he : endB (D.fv i) (lasB r)
  · have : nexB D r i = ⟨#[]⟩ := by
      unfold endB at he
      unfold nexB behS
      simp only [Bool.or_eq_false_iff] at he
      rw [he.1, he.2]; rfl
    rw [this]
    simp [eqB_refl]
  · have hp := next_place hV hi he
    have hc := cap_of_place hV hp
    have hs := cap_size hV hc
    have e1 : eqB (nexB D r i) ⟨#[]⟩ = false := by
      rw [← Bool.not_eq_true, eqB_iff]
      intro e; rw [e] at hs; exact absurd hs (by decide)
    have e2 : joiB D.np D.fp (nexB D r i) = !decide (0 < capI D.np D.fp (nexB D r i)) := by
      rw [Bool.eq_iff_iff, joiB_iff (V_places hV)]
      simp; omega
    rw [e1, e2]
    cases hasB r.1.length (nthB r.1) (nexB D r i) <;> cases eqB (nexB D r i) to <;> cases decide (0 < capI D.np D.fp (nexB D r i)) <;> rfl
theorem onM_eq {D : PD} (hV : D.V) (to : ByteArray) (r : RT) {k : Nat} (hk : k ≤ D.nv) : onM D to r k = (exN D r k).filter fun e => toB to e || goB D to e := by
  induction k with
  | zero => rfl
  | succ k ih =>
    have ih := ih (by omega)
    have e := okM_eq hV to r (show k < D.nv by omega)
    cases h1 : okV D r k
    · rw [h1] at e
      rw [exN_no h1, onM_no e, ih]
    · rw [exN_yes h1, List.filter_append, ← ih]
      cases h2 : (toB to (exV D r k) || goB D to (exV D r k))
      · rw [h1, h2] at e
        rw [onM_no e]; simp [h2]
      · rw [h1, h2] at e
        rw [onM_yes e]; simp [h2]
theorem on_to {D : PD} (hV : D.V) (to : ByteArray) (r : RT) : (onM D to r D.nv).filter (toB to) = (exN D r D.nv).filter (toB to) := by
  rw [onM_eq hV to r (Nat.le_refl _), List.filter_filter]
  congr 1; funext e; cases toB to e <;> simp
theorem on_go {D : PD} (hV : D.V) (to : ByteArray) (r : RT) : (onM D to r D.nv).filter (fun e => !toB to e) = (exN D r D.nv).filter (goB D to) := by
  rw [onM_eq hV to r (Nat.le_refl _), List.filter_filter]
  congr 1; funext e; unfold goB; cases toB to e <;> simp

end Go.Proofs.Ytnpfnbgbodojnab
