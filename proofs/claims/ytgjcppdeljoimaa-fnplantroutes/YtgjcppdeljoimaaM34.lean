/-
  Several texts in one.
-/
import Derived.Test.YtgjcppdeljoimaaM27
import Derived.Test.YtgjcppdeljoimaaM32
import Derived.Test.YtgjcppdeljoimaaRz
import Derived.Test.YtgjcppdeljoimaaRva
import Derived.Test.YtgjcppdeljoimaaKa
namespace Go.Proofs.Ytgjcppdeljoimaa
open Go.RowKit
abbrev RT := List ByteArray × List ByteArray
def lasB (r : RT) : ByteArray := nthB r.1 (r.1.length - 1)
def nexB (D : PD) (r : RT) (i : Nat) : ByteArray := behS (D.fv i) (lasB r)
def okV (D : PD) (r : RT) (i : Nat) : Bool := endB (D.fv i) (lasB r) && !hasB r.1.length (nthB r.1) (nexB D r i)
def exV (D : PD) (r : RT) (i : Nat) : RT := (r.1 ++ [nexB D r i], r.2 ++ [(D.fv i).1])
def exN (D : PD) (r : RT) (k : Nat) : List RT := ((List.range k).filter (okV D r)).map (exV D r)
theorem exN_yes {D : PD} {r : RT} {k : Nat} (h : okV D r k = true) : exN D r (k + 1) = exN D r k ++ [exV D r k] := by
  simp [exN, List.range_succ, List.filter_append, h]
theorem exN_no {D : PD} {r : RT} {k : Nat} (h : okV D r k = false) : exN D r (k + 1) = exN D r k := by
  simp [exN, List.range_succ, List.filter_append, h]
theorem las_ex (D : PD) (r : RT) (i : Nat) : lasB (exV D r i) = nexB D r i := by
  simp [lasB, exV, nthB]
def toB (to : ByteArray) (r : RT) : Bool := eqB (lasB r) to
def jtB (D : PD) (r : RT) : Bool := joiB D.np D.fp (lasB r)
def goB (D : PD) (to : ByteArray) (r : RT) : Bool := !toB to r && jtB D r
def enW (D : PD) (to : ByteArray) (ws : List RT) : List RT := ws.flatMap fun w => (exN D w D.nv).filter (toB to)
def otW (D : PD) (to : ByteArray) (ws : List RT) : List RT := ws.flatMap fun w => (exN D w D.nv).filter (goB D to)
def wayR (D : PD) (fr to : ByteArray) : Nat → List RT
  | 0 => [([fr], [])]
  | q + 1 => otW D to (wayR D fr to q)
def endR (D : PD) (fr to : ByteArray) : Nat → List RT
  | 0 => []
  | q + 1 => endR D fr to q ++ enW D to (wayR D fr to q)
def rtL (b : Bool) (D : PD) (fr to : ByteArray) : List RT := bif b then (endR D fr to D.np).take 30 else []
theorem has_anyW (L : List ByteArray) (y : ByteArray) : hasB L.length (nthB L) y = L.any (fun z => eqB z y) := by
  rw [Bool.eq_iff_iff, any_mem]
  unfold hasB
  rw [List.any_eq_true]
  constructor
  · rintro ⟨i, hi, he⟩
    rw [← (eqB_iff _ _).1 he]
    have := List.mem_range.1 hi
    exact List.mem_of_getElem? (i := i) (by simp [nthB, this])
  · intro h
    obtain ⟨j, hj, e⟩ := List.mem_iff_getElem.1 h
    exact ⟨j, List.mem_range.2 hj, by rw [eqB_iff]; simp [nthB, hj, e]⟩
theorem has_mem (L : List ByteArray) (y : ByteArray) : hasB L.length (nthB L) y = true ↔ y ∈ L := by rw [has_anyW]; exact any_mem L y
theorem las_mem {r : RT} (h : 0 < r.1.length) : lasB r ∈ r.1 := List.mem_of_getElem? (i := r.1.length - 1) (by simp [lasB, nthB, show r.1.length - 1 < r.1.length by omega])
theorem las_drop {r : RT} (h : 0 < r.1.length) : r.1 = r.1.dropLast ++ [lasB r] := by
  have hne : r.1 ≠ [] := by intro e; rw [e] at h; simp at h
  conv => lhs; rw [← List.dropLast_concat_getLast hne]
  congr 2
  rw [List.getLast_eq_getElem]
  simp [lasB, nthB, show r.1.length - 1 < r.1.length by omega]
theorem end_cases {g : ByteArray × ByteArray × ByteArray × ByteArray} {x : ByteArray} (h : endB g x = true) : (x = g.2.1 ∧ behS g x = g.2.2.1) ∨ (x = g.2.2.1 ∧ behS g x = g.2.1) := by
  unfold endB at h
  unfold behS
  cases h1 : eqB x g.2.1
  · cases h2 : eqB x g.2.2.1
    · rw [h1, h2] at h; cases h
    · exact .inr ⟨(eqB_iff _ _).1 h2, rfl⟩
  · exact .inl ⟨(eqB_iff _ _).1 h1, rfl⟩
structure Way (D : PD) (fr : ByteArray) (r : RT) (q : Nat) : Prop where
  len : r.1.length = q + 1
  vlen : r.2.length = q
  nod : r.1.Nodup
  fst : fr ∈ r.1
  pl : ∀ x ∈ r.1, 0 ≤ placeI D.np D.fp x
  vs : ∀ x ∈ r.2, x.size ≤ 8
theorem Way.first {D : PD} {fr : ByteArray} (h : 0 ≤ placeI D.np D.fp fr) : Way D fr ([fr], []) 0 :=
  ⟨rfl, rfl, by simp, by simp, fun x hx => by simp at hx; rw [hx]; exact h, fun x hx => by simp at hx⟩
theorem next_place {D : PD} (hV : D.V) {r : RT} {i : Nat} (hi : i < D.nv) (h : endB (D.fv i) (lasB r) = true) : 0 ≤ placeI D.np D.fp (nexB D r i) := by
  have hv := hV.2.2.2 i hi
  have h1 := hv.2.2.2.1
  have h2 := hv.2.2.2.2.1
  simp only [decide_eq_false_iff_not, Int.not_lt] at h1 h2
  unfold nexB
  rcases end_cases h with ⟨_, e⟩ | ⟨_, e⟩
  · rw [e]; exact h2
  · rw [e]; exact h1
theorem Way.next {D : PD} (hV : D.V) {fr : ByteArray} {r : RT} {q i : Nat} (h : Way D fr r q) (hi : i < D.nv) (hok : okV D r i = true) : Way D fr (exV D r i) (q + 1) := by
  unfold okV at hok
  simp only [Bool.and_eq_true, Bool.not_eq_true'] at hok
  have hnm : nexB D r i ∉ r.1 := fun hm => by rw [(has_mem _ _).2 hm] at hok; cases hok.2
  refine ⟨by simp [exV, h.len], by simp [exV, h.vlen], ?_, ?_, ?_, ?_⟩
  · unfold exV
    rw [List.nodup_append]
    exact ⟨h.nod, by simp, fun a ha b hb => by simp at hb; subst hb; exact fun e => hnm (e ▸ ha)⟩
  · unfold exV; exact List.mem_append_left _ h.fst
  · intro x hx
    unfold exV at hx
    rcases List.mem_append.1 hx with h1 | h1
    · exact h.pl x h1
    · simp at h1; rw [h1]; exact next_place hV hi hok.1
  · intro x hx
    unfold exV at hx
    rcases List.mem_append.1 hx with h1 | h1
    · exact h.vs x h1
    · simp at h1; rw [h1]; exact (V_sizes hV i hi).1
theorem mem_exN {D : PD} {r e : RT} {k : Nat} (h : e ∈ exN D r k) : ∃ i, i < k ∧ okV D r i = true ∧ e = exV D r i := by
  unfold exN at h
  obtain ⟨i, hi, rfl⟩ := List.mem_map.1 h
  obtain ⟨h1, h2⟩ := List.mem_filter.1 hi
  exact ⟨i, List.mem_range.1 h1, h2, rfl⟩
theorem Way.all {D : PD} (hV : D.V) {fr : ByteArray} {r e : RT} {q : Nat} (h : Way D fr r q) (he : e ∈ exN D r D.nv) : Way D fr e (q + 1) := by
  obtain ⟨i, hi, hok, rfl⟩ := mem_exN he
  exact h.next hV hi hok
theorem wayR_ways {D : PD} (hV : D.V) {fr to : ByteArray} (hf : 0 ≤ placeI D.np D.fp fr) : ∀ q, ∀ r ∈ wayR D fr to q, Way D fr r q
  | 0, r, h => by simp [wayR] at h; rw [h]; exact Way.first hf
  | q + 1, r, h => by
    unfold wayR otW at h
    obtain ⟨w, hw, hr⟩ := List.mem_flatMap.1 h
    exact (wayR_ways hV hf q w hw).all hV (List.mem_filter.1 hr).1
theorem Way.short {D : PD} {fr : ByteArray} {r : RT} {q : Nat} (h : Way D fr r q) : q + 1 ≤ D.np := by
  have := nodup_le r.1 ((List.range D.np).map fun i => (D.fp i).1) h.nod (fun y hy => by
    have hp := h.pl y hy
    unfold placeI at hp
    cases hf : (List.range D.np).find? (fun i => eqB (D.fp i).1 y) with
    | none => rw [hf] at hp; simp at hp
    | some i =>
      have h1 := List.find?_some hf
      have h2 := List.mem_of_find?_eq_some hf
      exact List.mem_map.2 ⟨i, h2, (eqB_iff _ _).1 h1⟩)
  rw [h.len] at this
  simpa using this
theorem wayR_nil {D : PD} {fr to : ByteArray} {q : Nat} (h : wayR D fr to q = []) : ∀ k, wayR D fr to (q + k) = [] ∧ endR D fr to (q + k) = endR D fr to q
  | 0 => ⟨h, rfl⟩
  | k + 1 => by
    obtain ⟨h1, h2⟩ := wayR_nil h k
    constructor
    · show otW D to (wayR D fr to (q + k)) = []; rw [h1]; rfl
    · show endR D fr to (q + k) ++ enW D to (wayR D fr to (q + k)) = _; rw [h1, h2]; simp [enW]
theorem endR_pre (D : PD) (fr to : ByteArray) (q : Nat) : ∀ k, endR D fr to q <+: endR D fr to (q + k)
  | 0 => List.prefix_refl _
  | k + 1 => (endR_pre D fr to q k).trans (List.prefix_append _ _)
theorem end_take {D : PD} {fr to : ByteArray} {q : Nat} (hq : q ≤ D.np) (h : wayR D fr to q = [] ∨ 30 ≤ (endR D fr to q).length ∨ q = D.np) : (endR D fr to q).take 30 = (endR D fr to D.np).take 30 := by
  obtain ⟨k, hk⟩ : ∃ k, D.np = q + k := ⟨D.np - q, by omega⟩
  rcases h with h | h | h
  · rw [hk, (wayR_nil h k).2]
  · obtain ⟨t, ht⟩ := endR_pre D fr to q k
    rw [hk, ← ht, List.take_append_of_le_length h]
  · rw [h]
theorem end_same {D : PD} (hV : D.V) {fr to : ByteArray} (hf : 0 ≤ placeI D.np D.fp fr) (he : fr = to) : ∀ q, endR D fr to q = []
  | 0 => rfl
  | q + 1 => by
    unfold endR
    rw [end_same hV hf he q]
    simp only [List.nil_append, enW, List.flatMap_eq_nil_iff, List.filter_eq_nil_iff]
    intro w hw e hee ht
    obtain ⟨i, hi, hok, rfl⟩ := mem_exN hee
    have hn := (wayR_ways hV hf q w hw).next hV hi hok
    unfold toB at ht
    rw [las_ex] at ht
    have e1 := (eqB_iff _ _).1 ht
    unfold okV at hok
    simp only [Bool.and_eq_true, Bool.not_eq_true'] at hok
    have hm := (wayR_ways hV hf q w hw).fst
    rw [he, ← e1] at hm
    rw [(has_mem _ _).2 hm] at hok
    cases hok.2
-- How many ways there are.
def inP (ps : List ByteArray) (y : ByteArray) : Bool := ps.any fun z => eqB z y
theorem inP_iff (ps : List ByteArray) (y : ByteArray) : inP ps y = true ↔ y ∈ ps := any_mem ps y
def offB (D : PD) (ps : List ByteArray) (i : Nat) : Bool := !inP ps (D.fv i).2.1 && !inP ps (D.fv i).2.2.1
theorem off_iff (D : PD) (ps : List ByteArray) (i : Nat) : offB D ps i = true ↔ (D.fv i).2.1 ∉ ps ∧ (D.fv i).2.2.1 ∉ ps := by
  unfold offB
  simp only [Bool.and_eq_true, Bool.not_eq_true', ← Bool.not_eq_true, inP_iff]
def freC (D : PD) (ps : List ByteArray) : Nat := (List.range D.nv).countP (offB D ps)
def wei (D : PD) (ws : List RT) : Nat := (ws.map fun r => 2 ^ freC D r.1.dropLast).sum
theorem count_two (p q r : Nat → Bool) : ∀ l : List Nat, (∀ i ∈ l, p i = true → r i = true) → (∀ i ∈ l, q i = true → r i = true) → (∀ i ∈ l, p i = true → q i = true → False) → l.countP p + l.countP q ≤ l.countP r
  | [], _, _, _ => by simp
  | i :: l, h1, h2, h3 => by
    have ih := count_two p q r l (fun j hj => h1 j (List.mem_cons_of_mem _ hj)) (fun j hj => h2 j (List.mem_cons_of_mem _ hj)) (fun j hj => h3 j (List.mem_cons_of_mem _ hj))
    have a1 := h1 i List.mem_cons_self
    have a2 := h2 i List.mem_cons_self
    have a3 := h3 i List.mem_cons_self
    simp only [List.countP_cons]
    cases hp : p i <;> cases hq : q i <;> cases hr : r i <;> simp_all <;> omega
theorem fre_step {D : PD} {r : RT} (h0 : 0 < r.1.length) (hn : r.1.Nodup) : (List.range D.nv).countP (okV D r) + freC D r.1 ≤ freC D r.1.dropLast := by
  have hd := las_drop h0
  refine count_two _ _ _ _ (fun i _ h => ?_) (fun i _ h => ?_) (fun i _ h h' => ?_)
  · rw [off_iff]
    unfold okV at h
    simp only [Bool.and_eq_true, Bool.not_eq_true'] at h
    have hnm : nexB D r i ∉ r.1 := fun hm => by rw [(has_mem _ _).2 hm] at h; cases h.2
    have hl : lasB r ∉ r.1.dropLast := by
      rw [hd, List.nodup_append] at hn
      exact fun hm => hn.2.2 _ hm _ (by simp) rfl
    have hsub : ∀ y, y ∉ r.1 → y ∉ r.1.dropLast := fun y hy hm => hy (by rw [hd]; exact List.mem_append_left _ hm)
    unfold nexB at hnm
    rcases end_cases h.1 with ⟨e1, e2⟩ | ⟨e1, e2⟩
    · rw [e2] at hnm; rw [← e1]; exact ⟨hl, hsub _ hnm⟩
    · rw [e2] at hnm; rw [← e1]; exact ⟨hsub _ hnm, hl⟩
  · rw [off_iff] at h ⊢
    exact ⟨fun hm => h.1 (by rw [hd]; exact List.mem_append_left _ hm), fun hm => h.2 (by rw [hd]; exact List.mem_append_left _ hm)⟩
  · rw [off_iff] at h'
    unfold okV at h
    simp only [Bool.and_eq_true] at h
    have hm := las_mem h0
    rcases end_cases h.1 with ⟨e1, _⟩ | ⟨e1, _⟩
    · rw [e1] at hm; exact h'.1 hm
    · rw [e1] at hm; exact h'.2 hm
theorem wei_append (D : PD) (a b : List RT) : wei D (a ++ b) = wei D a + wei D b := by simp [wei]
theorem wei_cons (D : PD) (a : RT) (b : List RT) : wei D (a :: b) = 2 ^ freC D a.1.dropLast + wei D b := by simp [wei]
theorem wei_len (D : PD) : ∀ ws : List RT, ws.length ≤ wei D ws
  | [] => by simp
  | r :: ws => by
    have := wei_len D ws
    have : 0 < 2 ^ freC D r.1.dropLast := Nat.two_pow_pos _
    rw [wei_cons, List.length_cons]; omega
theorem wei_sub (D : PD) {a b : List RT} (h : a.Sublist b) : wei D a ≤ wei D b := by
  induction h with
  | slnil => simp
  | cons x _ ih => rw [wei_cons]; exact Nat.le_trans ih (Nat.le_add_left _ _)
  | cons_cons x _ ih => rw [wei_cons, wei_cons]; exact Nat.add_le_add_left ih _
theorem wei_const (D : PD) (c : Nat) : ∀ ws : List RT, (∀ e ∈ ws, freC D e.1.dropLast = c) → wei D ws = ws.length * 2 ^ c
  | [], _ => by simp [wei]
  | e :: ws, h => by
    rw [wei_cons, wei_const D c ws (fun x hx => h x (List.mem_cons_of_mem _ hx)), h e List.mem_cons_self, List.length_cons, Nat.succ_mul]; omega
theorem wei_ext {D : PD} {r : RT} (h0 : 0 < r.1.length) (hn : r.1.Nodup) : wei D (exN D r D.nv) ≤ 2 ^ freC D r.1.dropLast := by
  have hl : (exN D r D.nv).length = (List.range D.nv).countP (okV D r) := by
    simp [exN, List.countP_eq_length_filter]
  rw [wei_const D (freC D r.1) _ (fun e he => by
    obtain ⟨i, _, _, rfl⟩ := mem_exN he
    simp [exV])]
  have hs := fre_step (D := D) h0 hn
  rw [← hl] at hs
  generalize (exN D r D.nv).length = k at *
  calc k * 2 ^ freC D r.1 ≤ 2 ^ k * 2 ^ freC D r.1 := Nat.mul_le_mul_right _ (Nat.le_of_lt Nat.lt_two_pow_self)
    _ = 2 ^ (k + freC D r.1) := (Nat.pow_add _ _ _).symm
    _ ≤ _ := Nat.pow_le_pow_right (by omega) hs
theorem wei_flat {D : PD} (p : RT → Bool) : ∀ ws : List RT, (∀ r ∈ ws, 0 < r.1.length ∧ r.1.Nodup) → wei D (ws.flatMap fun w => (exN D w D.nv).filter p) ≤ wei D ws
  | [], _ => by simp [wei]
  | r :: ws, h => by
    have ih := wei_flat (D := D) p ws (fun x hx => h x (List.mem_cons_of_mem _ hx))
    obtain ⟨h0, hn⟩ := h r List.mem_cons_self
    have := wei_ext (D := D) h0 hn
    have := wei_sub D (List.filter_sublist (p := p) (l := exN D r D.nv))
    rw [List.flatMap_cons, wei_append, wei_cons]; omega
theorem wei_first (D : PD) (hV : D.V) (fr : ByteArray) : wei D [([fr], [])] ≤ 262144 := by
  rw [wei_const D (freC D []) _ (fun e he => by simp at he; rw [he]; rfl)]
  have : freC D [] ≤ 18 := Nat.le_trans (Nat.le_trans List.countP_le_length (by simp)) hV.2.2.1
  have := Nat.pow_le_pow_right (show 0 < 2 by omega) this
  simp; omega
theorem Way.good {D : PD} {fr : ByteArray} {r : RT} {q : Nat} (h : Way D fr r q) : 0 < r.1.length ∧ r.1.Nodup := ⟨by have := h.len; omega, h.nod⟩
theorem wei_ways {D : PD} (hV : D.V) {fr to : ByteArray} (hf : 0 ≤ placeI D.np D.fp fr) : ∀ q, wei D (wayR D fr to q) ≤ 262144
  | 0 => wei_first D hV fr
  | q + 1 => Nat.le_trans (wei_flat _ _ (fun r hr => (wayR_ways hV hf q r hr).good)) (wei_ways hV hf q)
theorem flat_pre (p : RT → List RT) (ws : List RT) (j : Nat) : (ws.take j).flatMap p ++ (match ws[j]? with | some w => p w | none => []) = (ws.take (j + 1)).flatMap p := by
  rw [List.take_add_one, List.flatMap_append]
  cases ws[j]? <;> simp
theorem flat_take (p : RT → List RT) (ws : List RT) (j : Nat) : ((ws.take j).flatMap p).Sublist (ws.flatMap p) := by
  conv => rhs; rw [← List.take_append_drop j ws, List.flatMap_append]
  exact List.sublist_append_left _ _
def okM (D : PD) (to : ByteArray) (r : RT) (i : Nat) : Bool := !(eqB (nexB D r i) ⟨#[]⟩) && (!hasB r.1.length (nthB r.1) (nexB D r i) && (eqB (nexB D r i) to || !decide (0 < capI D.np D.fp (nexB D r i))))
def onM (D : PD) (to : ByteArray) (r : RT) (k : Nat) : List RT := ((List.range k).filter (okM D to r)).map (exV D r)
theorem onM_yes {D : PD} {to : ByteArray} {r : RT} {k : Nat} (h : okM D to r k = true) : onM D to r (k + 1) = onM D to r k ++ [exV D r k] := by
  simp [onM, List.range_succ, List.filter_append, h]
theorem onM_no {D : PD} {to : ByteArray} {r : RT} {k : Nat} (h : okM D to r k = false) : onM D to r (k + 1) = onM D to r k := by
  simp [onM, List.range_succ, List.filter_append, h]
theorem onM_len (D : PD) (to : ByteArray) (r : RT) (k : Nat) : (onM D to r k).length ≤ k := by
  simp only [onM, List.length_map]
  exact Nat.le_trans (List.length_filter_le _ _) (by simp)
theorem cap_of_place {D : PD} (hV : D.V) {x : ByteArray} (h : 0 ≤ placeI D.np D.fp x) : 0 ≤ capI D.np D.fp x := by
  unfold capI
  rw [if_neg (by omega)]
  unfold placeI at h ⊢
  cases hf : (List.range D.np).find? (fun i => eqB (D.fp i).1 x) with
  | none => rw [hf] at h; simp at h
  | some i =>
    have h2 := List.mem_range.1 (List.mem_of_find?_eq_some hf)
    have := (hV.2.1.2 i h2).2.2.1
    unfold inB at this
    simp only [decide_eq_true_eq] at this
    simpa using this.1
theorem okM_eq {D : PD} (hV : D.V) (to : ByteArray) (r : RT) {i : Nat} (hi : i < D.nv) : okM D to r i = (okV D r i && (toB to (exV D r i) || goB D to (exV D r i))) := by
  unfold okM okV toB goB toB jtB
  rw [las_ex]
  cases he : endB (D.fv i) (lasB r)
  · have : nexB D r i = ⟨#[]⟩ := by
      unfold endB at he
      unfold nexB behS
      simp only [Bool.or_eq_false_iff] at he
      rw [he.1, he.2]; rfl
    rw [this]
    simp [eqB_refl]
  · have hp := next_place hV hi he
    have hc := cap_of_place hV hp
    have hs := cap_size hV hc
    have e1 : eqB (nexB D r i) ⟨#[]⟩ = false := by
      rw [← Bool.not_eq_true, eqB_iff]
      intro e; rw [e] at hs; exact absurd hs (by decide)
    have e2 : joiB D.np D.fp (nexB D r i) = !decide (0 < capI D.np D.fp (nexB D r i)) := by
      rw [Bool.eq_iff_iff, joiB_iff (V_places hV)]
      simp; omega
    rw [e1, e2]
    cases hasB r.1.length (nthB r.1) (nexB D r i) <;> cases eqB (nexB D r i) to <;> cases decide (0 < capI D.np D.fp (nexB D r i)) <;> rfl
theorem onM_eq {D : PD} (hV : D.V) (to : ByteArray) (r : RT) {k : Nat} (hk : k ≤ D.nv) : onM D to r k = (exN D r k).filter fun e => toB to e || goB D to e := by
  induction k with
  | zero => rfl
  | succ k ih =>
    have ih := ih (by omega)
    have e := okM_eq hV to r (show k < D.nv by omega)
    cases h1 : okV D r k
    · rw [h1] at e
      rw [exN_no h1, onM_no e, ih]
    · rw [exN_yes h1, List.filter_append, ← ih]
      cases h2 : (toB to (exV D r k) || goB D to (exV D r k))
      · rw [h1, h2] at e
        rw [onM_no e]; simp [h2]
      · rw [h1, h2] at e
        rw [onM_yes e]; simp [h2]
theorem on_to {D : PD} (hV : D.V) (to : ByteArray) (r : RT) : (onM D to r D.nv).filter (toB to) = (exN D r D.nv).filter (toB to) := by
  rw [onM_eq hV to r (Nat.le_refl _), List.filter_filter]
  congr 1; funext e; cases toB to e <;> simp
theorem on_go {D : PD} (hV : D.V) (to : ByteArray) (r : RT) : (onM D to r D.nv).filter (fun e => !toB to e) = (exN D r D.nv).filter (goB D to) := by
  rw [onM_eq hV to r (Nat.le_refl _), List.filter_filter]
  congr 1; funext e; unfold goB; cases toB to e <;> simp
end Go.Proofs.Ytgjcppdeljoimaa

namespace Go.Proofs.Ytgjcppdeljoimaa
open Go.RowKit
def Lnk (D : PD) (a v b : ByteArray) : Prop := ∃ k, k < D.nv ∧ (D.fv k).1 = v ∧ ((D.fv k).2.1 = a ∧ (D.fv k).2.2.1 = b ∨ (D.fv k).2.2.1 = a ∧ (D.fv k).2.1 = b)
theorem Lnk.symm {D : PD} {a v b : ByteArray} (h : Lnk D a v b) : Lnk D b v a := by
  obtain ⟨k, hk, h1, h2⟩ := h
  exact ⟨k, hk, h1, h2.elim (fun h => .inr ⟨h.2, h.1⟩) (fun h => .inl ⟨h.2, h.1⟩)⟩
theorem nth_app (l : List ByteArray) (y : ByteArray) {i : Nat} (h : i < l.length) : nthB (l ++ [y]) i = nthB l i := by
  simp [nthB, List.getElem?_append_left h]
theorem nth_end (l : List ByteArray) (y : ByteArray) : nthB (l ++ [y]) l.length = y := by simp [nthB]
theorem nth_get {l : List ByteArray} {i : Nat} (h : i < l.length) : nthB l i = l[i] := by simp [nthB, h]
theorem nth_inj {l : List ByteArray} (hn : l.Nodup) {i j : Nat} (hi : i < l.length) (hj : j < l.length) (e : nthB l i = nthB l j) : i = j := by
  rw [nth_get hi, nth_get hj] at e
  have hp := List.pairwise_iff_getElem.1 hn
  rcases Nat.lt_trichotomy i j with h | h | h
  · exact absurd e (hp i j hi hj h)
  · exact h
  · exact absurd e.symm (hp j i hj hi h)
theorem nth_take {l : List ByteArray} {i k : Nat} (h : i < k) : nthB (l.take k) i = nthB l i := by simp [nthB, h]
theorem take_snoc {l : List ByteArray} {k : Nat} (h : l.length = k + 1) : l = l.take k ++ [nthB l k] := by
  rw [nth_get (show k < l.length by omega), ← List.take_succ_eq_append_getElem (by omega), List.take_of_length_le (by omega)]
theorem on_iff {D : PD} {w e : RT} (h0 : 0 < w.1.length) : e ∈ exN D w D.nv ↔ ∃ y v, e = (w.1 ++ [y], w.2 ++ [v]) ∧ y ∉ w.1 ∧ Lnk D (lasB w) v y := by
  constructor
  · intro h
    obtain ⟨i, hi, hok, rfl⟩ := mem_exN h
    unfold okV at hok
    simp only [Bool.and_eq_true, Bool.not_eq_true'] at hok
    refine ⟨nexB D w i, (D.fv i).1, rfl, (fun hm => by rw [(has_mem _ _).2 hm] at hok; cases hok.2), i, hi, rfl, ?_⟩
    unfold nexB
    rcases end_cases hok.1 with ⟨h1, h2⟩ | ⟨h1, h2⟩
    · exact .inl ⟨h1.symm, h2.symm⟩
    · exact .inr ⟨h1.symm, h2.symm⟩
  · rintro ⟨y, v, rfl, hy, k, hk, rfl, hlk⟩
    have key : nexB D w k = y ∧ endB (D.fv k) (lasB w) = true := by
      unfold nexB behS endB
      rcases hlk with ⟨h1, h2⟩ | ⟨h1, h2⟩
      · rw [h1, eqB_refl]; exact ⟨h2, rfl⟩
      · cases h3 : eqB (lasB w) (D.fv k).2.1
        · rw [h1, eqB_refl]; exact ⟨h2, rfl⟩
        · have e := (eqB_iff _ _).1 h3
          rw [h2] at e
          exact absurd (las_mem h0) (by rw [e]; exact hy)
    unfold exN
    refine List.mem_map.2 ⟨k, List.mem_filter.2 ⟨List.mem_range.2 hk, ?_⟩, ?_⟩
    · unfold okV
      rw [key.2, key.1]
      cases hh : hasB w.1.length (nthB w.1) y
      · rfl
      · exact absurd ((has_mem _ _).1 hh) hy
    · unfold exV
      rw [key.1]
structure Wy (D : PD) (fr to : ByteArray) (r : RT) (q : Nat) : Prop where
  len : r.1.length = q + 1
  vlen : r.2.length = q
  nod : r.1.Nodup
  fst : nthB r.1 0 = fr
  mid : ∀ i, 0 < i → i ≤ q → joiB D.np D.fp (nthB r.1 i) = true ∧ nthB r.1 i ≠ to
  lnk : ∀ i, i < q → Lnk D (nthB r.1 i) (nthB r.2 i) (nthB r.1 (i + 1))
structure Rte (D : PD) (fr to : ByteArray) (r : RT) : Prop where
  len : r.1.length = r.2.length + 1
  pos : 1 ≤ r.2.length
  nod : r.1.Nodup
  fst : nthB r.1 0 = fr
  lst : nthB r.1 r.2.length = to
  mid : ∀ i, 0 < i → i < r.2.length → joiB D.np D.fp (nthB r.1 i) = true
  lnk : ∀ i, i < r.2.length → Lnk D (nthB r.1 i) (nthB r.2 i) (nthB r.1 (i + 1))
theorem las_nth {r : RT} {q : Nat} (h : r.1.length = q + 1) : lasB r = nthB r.1 q := by unfold lasB; rw [h]; rfl
theorem snoc_lnk {D : PD} {w : RT} {q : Nat} {y v : ByteArray} (hl : w.1.length = q + 1) (hv : w.2.length = q) (h : ∀ i, i < q → Lnk D (nthB w.1 i) (nthB w.2 i) (nthB w.1 (i + 1))) (hn : Lnk D (lasB w) v y) : ∀ i, i < q + 1 → Lnk D (nthB (w.1 ++ [y]) i) (nthB (w.2 ++ [v]) i) (nthB (w.1 ++ [y]) (i + 1)) := fun i hi => by
  by_cases e : i = q
  · subst e
    have e1 : nthB (w.1 ++ [y]) (i + 1) = y := by rw [← hl]; exact nth_end _ _
    have e2 : nthB (w.2 ++ [v]) i = v := by conv => lhs; rw [← hv]
                                            exact nth_end _ _
    rw [nth_app _ _ (by omega), ← las_nth hl, e1, e2]
    exact hn
  · rw [nth_app _ _ (by omega), nth_app _ _ (by omega), nth_app _ _ (by omega)]
    exact h i (by omega)
theorem cut_eq {r : RT} {q : Nat} (hl : r.1.length = q + 1 + 1) (hv : r.2.length = q + 1) : r = ((r.1.take (q + 1)) ++ [nthB r.1 (q + 1)], (r.2.take q) ++ [nthB r.2 q]) := by
  rw [← take_snoc hl, ← take_snoc hv]
theorem cut_wy {D : PD} {fr to : ByteArray} {r : RT} {q : Nat} (hl : r.1.length = q + 1 + 1) (hv : r.2.length = q + 1) (hn : r.1.Nodup) (hf : nthB r.1 0 = fr) (hm : ∀ i, 0 < i → i ≤ q → joiB D.np D.fp (nthB r.1 i) = true ∧ nthB r.1 i ≠ to) (hk : ∀ i, i < q + 1 → Lnk D (nthB r.1 i) (nthB r.2 i) (nthB r.1 (i + 1))) :
    Wy D fr to (r.1.take (q + 1), r.2.take q) q ∧ r ∈ exN D (r.1.take (q + 1), r.2.take q) D.nv := by
  have hlen : (r.1.take (q + 1)).length = q + 1 := by rw [List.length_take]; omega
  constructor
  · refine ⟨hlen, by rw [List.length_take]; omega, List.Nodup.sublist (List.take_sublist _ _) hn, by rw [nth_take (by omega)]; exact hf, fun i h0 h1 => ?_, fun i hi => ?_⟩
    · show joiB D.np D.fp (nthB (r.1.take (q + 1)) i) = true ∧ nthB (r.1.take (q + 1)) i ≠ to
      rw [nth_take (by omega)]; exact hm i h0 h1
    · show Lnk D (nthB (r.1.take (q + 1)) i) (nthB (r.2.take q) i) (nthB (r.1.take (q + 1)) (i + 1))
      rw [nth_take (by omega), nth_take (by omega), nth_take (by omega)]; exact hk i (by omega)
  · refine (on_iff (by show 0 < (r.1.take (q + 1)).length; omega)).2 ⟨nthB r.1 (q + 1), nthB r.2 q, cut_eq hl hv, ?_, ?_⟩
    · intro hmem
      have h2 := take_snoc hl
      have h3 := hn
      rw [h2, List.nodup_append] at h3
      exact h3.2.2 _ hmem _ (by simp) rfl
    · rw [las_nth hlen]
      show Lnk D (nthB (r.1.take (q + 1)) q) _ _
      rw [nth_take (by omega)]
      exact hk q (by omega)
theorem wayR_iff {D : PD} {fr to : ByteArray} : ∀ q r, r ∈ wayR D fr to q ↔ Wy D fr to r q
  | 0, r => by
    constructor
    · intro h
      simp [wayR] at h
      subst h
      exact ⟨rfl, rfl, by simp, rfl, fun i h0 h1 => by omega, fun i hi => by omega⟩
    · intro h
      obtain ⟨a, b⟩ := r
      obtain ⟨x, hx⟩ : ∃ x, a = [x] := List.length_eq_one_iff.1 h.len
      have hb : b = [] := List.eq_nil_of_length_eq_zero h.vlen
      have hf := h.fst
      simp only [hx] at hf
      have : x = fr := by simpa [nthB] using hf
      rw [hx, hb, this]
      simp [wayR]
  | q + 1, r => by
    unfold wayR otW
    rw [List.mem_flatMap]
    constructor
    · rintro ⟨w, hw, hr⟩
      obtain ⟨h1, h2⟩ := List.mem_filter.1 hr
      have W := (wayR_iff q w).1 hw
      obtain ⟨y, v, rfl, hy, hl⟩ := (on_iff (by have := W.len; omega)).1 h1
      have hlen : (w.1 ++ [y]).length = q + 1 + 1 := by simp [W.len]
      unfold goB toB jtB at h2
      have hlas : lasB ((w.1 ++ [y], w.2 ++ [v]) : RT) = y := by
        rw [las_nth hlen]
        show nthB (w.1 ++ [y]) (q + 1) = y
        rw [← W.len]; exact nth_end _ _
      rw [hlas] at h2
      simp only [Bool.and_eq_true, Bool.not_eq_true'] at h2
      refine ⟨hlen, by simp [W.vlen], ?_, ?_, fun i h0 h1 => ?_, snoc_lnk W.len W.vlen W.lnk hl⟩
      · show (w.1 ++ [y]).Nodup
        rw [List.nodup_append]
        exact ⟨W.nod, by simp, fun a ha b hb => by simp at hb; subst hb; exact fun e => hy (e ▸ ha)⟩
      · show nthB (w.1 ++ [y]) 0 = fr
        rw [nth_app _ _ (by have := W.len; omega)]; exact W.fst
      · show joiB D.np D.fp (nthB (w.1 ++ [y]) i) = true ∧ nthB (w.1 ++ [y]) i ≠ to
        by_cases e : i = q + 1
        · subst e
          have : nthB (w.1 ++ [y]) (q + 1) = y := by rw [← W.len]; exact nth_end _ _
          rw [this]
          exact ⟨h2.2, fun e => by rw [e, eqB_refl] at h2; cases h2.1⟩
        · rw [nth_app _ _ (by have := W.len; omega)]; exact W.mid i h0 (by omega)
    · intro h
      obtain ⟨h1, h2⟩ := cut_wy h.len h.vlen h.nod h.fst (fun i a b => h.mid i a (by omega)) h.lnk
      refine ⟨_, (wayR_iff q _).2 h1, List.mem_filter.2 ⟨h2, ?_⟩⟩
      have := h.mid (q + 1) (by omega) (by omega)
      unfold goB toB jtB
      rw [las_nth h.len, this.1]
      cases he : eqB (nthB r.1 (q + 1)) to
      · rfl
      · exact absurd ((eqB_iff _ _).1 he) this.2
theorem enW_iff {D : PD} {fr to : ByteArray} (q : Nat) (r : RT) : r ∈ enW D to (wayR D fr to q) ↔ Rte D fr to r ∧ r.2.length = q + 1 := by
  unfold enW
  rw [List.mem_flatMap]
  constructor
  · rintro ⟨w, hw, hr⟩
    obtain ⟨h1, h2⟩ := List.mem_filter.1 hr
    have W := (wayR_iff q w).1 hw
    obtain ⟨y, v, rfl, hy, hl⟩ := (on_iff (by have := W.len; omega)).1 h1
    have hlen : (w.1 ++ [y]).length = q + 1 + 1 := by simp [W.len]
    have hvl : (w.2 ++ [v]).length = q + 1 := by simp [W.vlen]
    have hend : nthB (w.1 ++ [y]) (q + 1) = y := by rw [← W.len]; exact nth_end _ _
    unfold toB at h2
    rw [las_nth (r := ((w.1 ++ [y], w.2 ++ [v]) : RT)) hlen] at h2
    have h2 : eqB (nthB (w.1 ++ [y]) (q + 1)) to = true := h2
    rw [hend] at h2
    refine ⟨⟨by show (w.1 ++ [y]).length = (w.2 ++ [v]).length + 1; omega, by show 1 ≤ (w.2 ++ [v]).length; omega, ?_, ?_, ?_, fun i h0 h1 => ?_, ?_⟩, hvl⟩
    · show (w.1 ++ [y]).Nodup
      rw [List.nodup_append]
      exact ⟨W.nod, by simp, fun a ha b hb => by simp at hb; subst hb; exact fun e => hy (e ▸ ha)⟩
    · show nthB (w.1 ++ [y]) 0 = fr
      rw [nth_app _ _ (by have := W.len; omega)]; exact W.fst
    · show nthB (w.1 ++ [y]) (w.2 ++ [v]).length = to
      rw [hvl, hend]; exact (eqB_iff _ _).1 h2
    · have h1 : i < (w.2 ++ [v]).length := h1
      show joiB D.np D.fp (nthB (w.1 ++ [y]) i) = true
      rw [nth_app _ _ (by have := W.len; omega)]; exact (W.mid i h0 (by omega)).1
    · intro i hi
      have hi : i < (w.2 ++ [v]).length := hi
      exact snoc_lnk W.len W.vlen W.lnk hl i (by omega)
  · rintro ⟨h, hv⟩
    have hl : r.1.length = q + 1 + 1 := by have := h.len; omega
    obtain ⟨h1, h2⟩ := cut_wy (to := to) hl hv h.nod h.fst (fun i a b => ⟨h.mid i a (by omega), fun e => by
      have := nth_inj h.nod (i := i) (j := r.2.length) (by omega) (by omega) (e.trans h.lst.symm)
      omega⟩) (fun i hi => h.lnk i (by omega))
    refine ⟨_, (wayR_iff q _).2 h1, List.mem_filter.2 ⟨h2, ?_⟩⟩
    unfold toB
    rw [las_nth hl, ← hv, h.lst, eqB_refl]
theorem endR_iff {D : PD} {fr to : ByteArray} : ∀ q r, r ∈ endR D fr to q ↔ Rte D fr to r ∧ r.2.length ≤ q
  | 0, r => by
    constructor
    · intro h; simp [endR] at h
    · rintro ⟨h, h1⟩; have := h.pos; omega
  | q + 1, r => by
    unfold endR
    rw [List.mem_append, endR_iff q r, enW_iff q r]
    constructor
    · rintro (h | h)
      · exact ⟨h.1, by omega⟩
      · exact ⟨h.1, by omega⟩
    · rintro ⟨h, h1⟩
      by_cases e : r.2.length = q + 1
      · exact .inr ⟨h, e⟩
      · exact .inl ⟨h, by omega⟩
-- Each once; shorter ones first.
theorem val_asc {D : PD} (h : D.V) : ascB D.nv fun i => (D.fv i).1 := ascB_of fun i hi h0 => (h.2.2.2 i hi).2.1 h0
def Dif (a b : RT) : Prop := a.2 ≠ b.2
theorem exN_dif {D : PD} (hV : D.V) (w : RT) (k : Nat) (hk : k ≤ D.nv) : (exN D w k).Pairwise Dif := by
  unfold exN
  rw [List.pairwise_map]
  refine List.Pairwise.imp_of_mem ?_ ((List.pairwise_lt_range (n := k)).sublist List.filter_sublist)
  intro i j hi hj hij e
  have hi' := List.mem_range.1 (List.mem_filter.1 hi).1
  have hj' := List.mem_range.1 (List.mem_filter.1 hj).1
  have e' : w.2 ++ [(D.fv i).1] = w.2 ++ [(D.fv j).1] := e
  have e2 := List.append_cancel_left e'
  simp only [List.cons.injEq, and_true] at e2
  have := ascB_inj (val_asc hV) (i := i) (j := j) (by omega) (by omega) e2
  omega
theorem flat_dif {D : PD} (hV : D.V) (p : RT → Bool) {ws : List RT} (h : ws.Pairwise Dif) : (ws.flatMap fun w => (exN D w D.nv).filter p).Pairwise Dif := by
  rw [List.pairwise_flatMap]
  refine ⟨fun w _ => (exN_dif hV w D.nv (Nat.le_refl _)).sublist List.filter_sublist, h.imp fun {a b} hab x hx y hy e => ?_⟩
  obtain ⟨i, _, _, rfl⟩ := mem_exN (List.mem_filter.1 hx).1
  obtain ⟨j, _, _, rfl⟩ := mem_exN (List.mem_filter.1 hy).1
  have e' : a.2 ++ [(D.fv i).1] = b.2 ++ [(D.fv j).1] := e
  exact hab (List.append_inj_left' e' rfl)
theorem wayR_dif {D : PD} (hV : D.V) (fr to : ByteArray) : ∀ q, (wayR D fr to q).Pairwise Dif
  | 0 => by simp [wayR]
  | q + 1 => flat_dif hV _ (wayR_dif hV fr to q)
theorem endR_pw {D : PD} (hV : D.V) (fr to : ByteArray) : ∀ q, (endR D fr to q).Pairwise fun a b => a.2.length ≤ b.2.length ∧ a.2 ≠ b.2
  | 0 => by simp [endR]
  | q + 1 => by
    unfold endR
    rw [List.pairwise_append]
    refine ⟨endR_pw hV fr to q, ?_, fun a ha b hb => ?_⟩
    · refine List.Pairwise.imp_of_mem ?_ (flat_dif hV (toB to) (wayR_dif hV fr to q))
      intro a b ha hb hab
      have h1 := ((enW_iff q a).1 ha).2
      have h2 := ((enW_iff q b).1 hb).2
      exact ⟨by omega, hab⟩
    · have h1 := ((endR_iff q a).1 ha).2
      have h2 := ((enW_iff q b).1 hb).2
      exact ⟨by omega, fun e => by rw [e] at h1; omega⟩
-- As many back.
def revR (r : RT) : RT := (r.1.reverse, r.2.reverse)
theorem nth_rev {l : List ByteArray} {i : Nat} (h : i < l.length) : nthB l.reverse i = nthB l (l.length - 1 - i) := by
  rw [nth_get (by simpa using h), nth_get (by omega), List.getElem_reverse]
theorem Rte.rev {D : PD} {fr to : ByteArray} {r : RT} (h : Rte D fr to r) : Rte D to fr (revR r) := by
  have hl := h.len
  have hp := h.pos
  refine ⟨by simp [revR, hl], by simpa [revR] using hp, (by show (r.1.reverse).Nodup; unfold List.Nodup; rw [List.pairwise_reverse]; exact h.nod.imp fun h e => h e.symm), ?_, ?_, fun i h0 h1 => ?_, fun i hi => ?_⟩
  · show nthB r.1.reverse 0 = to
    rw [nth_rev (by omega), show r.1.length - 1 - 0 = r.2.length by omega]; exact h.lst
  · show nthB r.1.reverse r.2.reverse.length = fr
    rw [List.length_reverse, nth_rev (by omega), show r.1.length - 1 - r.2.length = 0 by omega]; exact h.fst
  · have h1 : i < r.2.reverse.length := h1
    rw [List.length_reverse] at h1
    show joiB D.np D.fp (nthB r.1.reverse i) = true
    rw [nth_rev (by omega)]; exact h.mid _ (by omega) (by omega)
  · have hi : i < r.2.reverse.length := hi
    rw [List.length_reverse] at hi
    show Lnk D (nthB r.1.reverse i) (nthB r.2.reverse i) (nthB r.1.reverse (i + 1))
    rw [nth_rev (by omega), nth_rev (by omega), nth_rev (by omega)]
    have := (h.lnk (r.2.length - 1 - i) (by omega)).symm
    rw [show r.2.length - 1 - i + 1 = r.1.length - 1 - i by omega] at this
    rw [show r.1.length - 1 - (i + 1) = r.2.length - 1 - i by omega]
    exact this
theorem rev_inj {a b : RT} (h : revR a = revR b) : a = b := by
  have h1 : a.1.reverse = b.1.reverse := congrArg Prod.fst h
  have h2 : a.2.reverse = b.2.reverse := congrArg Prod.snd h
  exact Prod.ext (List.reverse_inj.1 h1) (List.reverse_inj.1 h2)
theorem nodup_leR : ∀ (L U : List RT), L.Nodup → (∀ y ∈ L, y ∈ U) → L.length ≤ U.length
  | [], U, _, _ => Nat.zero_le _
  | y :: L, U, h, hs => by
    have hy := hs y List.mem_cons_self
    obtain ⟨s, t, rfl⟩ := List.append_of_mem hy
    rw [List.nodup_cons] at h
    have := nodup_leR L (s ++ t) h.2 (fun z hz => by
      have := hs z (List.mem_cons_of_mem _ hz)
      simp only [List.mem_append, List.mem_cons] at this ⊢
      rcases this with h1 | h1 | h1
      · exact .inl h1
      · exact absurd (h1 ▸ hz) h.1
      · exact .inr h1)
    simp only [List.length_append, List.length_cons] at this ⊢
    omega
theorem end_le {D : PD} (hV : D.V) (fr to : ByteArray) (q : Nat) : (endR D fr to q).length ≤ (endR D to fr q).length := by
  have hn : ((endR D fr to q).map revR).Nodup := by
    unfold List.Nodup
    rw [List.pairwise_map]
    exact (endR_pw hV fr to q).imp fun {a b} h e => h.2 (by rw [rev_inj e])
  have := nodup_leR _ (endR D to fr q) hn (fun y hy => by
    obtain ⟨r, hr, rfl⟩ := List.mem_map.1 hy
    obtain ⟨h1, h2⟩ := (endR_iff q r).1 hr
    exact (endR_iff q _).2 ⟨h1.rev, by simpa [revR] using h2⟩)
  simpa using this
theorem end_count {D : PD} (hV : D.V) (fr to : ByteArray) (q : Nat) : (endR D fr to q).length = (endR D to fr q).length := Nat.le_antisymm (end_le hV fr to q) (end_le hV to fr q)
theorem rt_all {D : PD} {b : Bool} {fr to : ByteArray} (hV : b = true → D.V) : (∀ r ∈ rtL b D fr to, Rte D fr to r ∧ b = true) ∧ (rtL b D fr to).Pairwise (fun a b => a.2.length ≤ b.2.length ∧ a.2 ≠ b.2) ∧ (rtL b D fr to).length = (rtL b D to fr).length := by
  cases b
  · exact ⟨fun r hr => by simp [rtL] at hr, by simp [rtL], rfl⟩
  · have hV := hV rfl
    refine ⟨fun r hr => ?_, ?_, ?_⟩
    · exact ⟨((endR_iff D.np r).1 (List.mem_of_mem_take (by simpa [rtL] using hr))).1, rfl⟩
    · show ((endR D fr to D.np).take 30).Pairwise _
      exact (endR_pw hV fr to D.np).sublist (List.take_sublist _ _)
    · show ((endR D fr to D.np).take 30).length = ((endR D to fr D.np).take 30).length
      rw [List.length_take, List.length_take, end_count hV fr to]
end Go.Proofs.Ytgjcppdeljoimaa

namespace Go.Proofs.Ytgjcppdeljoimaa
open Go.RowKit
theorem two_box {w wr : World} {c d : Array Value} {t u : TypeId} (hb : Below (w.heap.size + 1 + 1) ((w.alloc (.cells c t)).alloc (.cells d u)) wr) :
    (∀ (j : Nat) (v : Value), c[j]? = some v → wr.cell? ⟨w.heap.size, j, none⟩ = some v) ∧ ∀ (j : Nat) (v : Value), d[j]? = some v → wr.cell? ⟨w.heap.size + 1, j, none⟩ = some v := by
  have e : (w.alloc (.cells c t)).heap.size = w.heap.size + 1 := by simp
  constructor
  · intro j v h
    exact (hb.cell (p := ⟨w.heap.size, j, none⟩) (by show w.heap.size < _; omega)).trans (cell_past (new_cell w c t j v h) (by simp) _)
  · intro j v h
    have := new_cell (w.alloc (.cells c t)) d u j v h
    rw [e] at this
    exact (hb.cell (p := ⟨w.heap.size + 1, j, none⟩) (by show w.heap.size + 1 < _; omega)).trans this
theorem two_end {w wr : World} {o o' : Obj} (hb : Below (w.heap.size + 1 + 1) ((w.alloc o).alloc o') wr) : Below w.heap.size w wr :=
  (((Below.refl _ _).alloc (Nat.le_refl _) o).alloc (by simp) o').trans (hb.mono (by omega))
theorem Lst.first {B : Nat} {w : World} {oa : Option Addr} {n cap q k : Nat} {c : Nat → Nat → Value} (h : Lst B w (.slice oa n cap) n k c) (hq : q ≤ n) : Lst B w (.slice oa q cap) q k c := by
  obtain ⟨oa', cap', hv, hn, hc⟩ := h
  cases hv
  exact ⟨oa, cap, rfl, by omega, fun i hi => hc i (by omega)⟩
end Go.Proofs.Ytgjcppdeljoimaa
