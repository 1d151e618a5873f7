/-
  What a route of a plant is, and which valves guard it: plain functions, by the letter of the model and of the program, and why the two are the same. No program is named here.
-/
import Derived.Test.YtndacfockllehaaGreatM3
import Derived.Test.YtndacfockllehaaGreatRz
namespace Go.Proofs.YtndacfockllehaaGreat
open Go.RowKit

theorem eqB_size {a b : ByteArray} (h : eqB a b = true) : a.size = b.size := by
  unfold eqB at h
  have h1 : a.toList = b.toList := by simpa using h
  rw [ByteArray.toList_eq, ByteArray.toList_eq] at h1
  rw [sz_list, sz_list, h1]
theorem less_dec : ∀ x y : List UInt8, Op.bytesLess x y = decide (x < y)
  | [], [] => by simp [Op.bytesLess]
  | _ :: _, [] => by simp [Op.bytesLess]
  | [], _ :: _ => by simp [Op.bytesLess]
  | a :: x, b :: y => by
    have ih := less_dec x y
    unfold Op.bytesLess
    rw [ih]
    by_cases h1 : a < b <;> by_cases h2 : a = b <;> by_cases h3 : x < y <;> simp [List.cons_lt_cons_iff, h1, h2, h3]
theorem ltB_iff (a b : ByteArray) : ltB a b = true ↔ a.toList < b.toList := by simp [ltB, less_dec]
theorem eqB_iff (a b : ByteArray) : eqB a b = true ↔ a = b := by
  unfold eqB
  rw [beq_iff_eq, ByteArray.toList_eq, ByteArray.toList_eq]
  constructor
  · intro h; exact ByteArray.ext (Array.toList_inj.1 h)
  · intro h; rw [h]
theorem ltB_trans {a b c : ByteArray} (h1 : ltB a b = true) (h2 : ltB b c = true) : ltB a c = true := by
  rw [ltB_iff] at *; exact List.lt_trans h1 h2
theorem ltB_irrefl (a : ByteArray) : ltB a a = false := by
  cases h : ltB a a
  · rfl
  · exact absurd ((ltB_iff _ _).1 h) (List.lt_irrefl _)
theorem ltB_ne {a b : ByteArray} (h : ltB a b = true) : eqB a b = false := by
  cases h' : eqB a b
  · rfl
  · have := (eqB_iff _ _).1 h'; subst this; rw [ltB_irrefl] at h; cases h
theorem ltB_asymm {a b : ByteArray} (h : ltB a b = true) : ltB b a = false := by
  cases h' : ltB b a
  · rfl
  · have := ltB_trans h h'; rw [ltB_irrefl] at this; cases this

/-- Names that ascend. -/
def ascB (n : Nat) (f : Nat → ByteArray) : Prop := ∀ i j, i < j → j < n → ltB (f i) (f j) = true
theorem ascB_of {n : Nat} {f : Nat → ByteArray} (h : ∀ i, i < n → 0 < i → ltB (f (i - 1)) (f i) = true) : ascB n f := by
  intro i j
  induction j with
  | zero => intro h; omega
  | succ j ih =>
    intro hi hj
    have h1 : ltB (f j) (f (j + 1)) = true := h (j + 1) hj (by omega)
    by_cases e : i = j
    · subst e; exact h1
    · exact ltB_trans (ih (by omega) (by omega)) h1
theorem ascB_inj {n : Nat} {f : Nat → ByteArray} (h : ascB n f) {i j : Nat} (hi : i < n) (hj : j < n) (he : f i = f j) : i = j := by
  rcases Nat.lt_trichotomy i j with g | g | g
  · have := ltB_ne (h i j g hj); rw [he] at this; rw [eqB_refl] at this; cases this
  · exact g
  · have := ltB_ne (h j i g hi); rw [he] at this; rw [eqB_refl] at this; cases this

/-- What a place can hold, -1 if there is none of this name. -/
def capI (n : Nat) (f : Nat → ByteArray × Int × ByteArray) (x : ByteArray) : Int := if placeI n f x < 0 then -1 else (f (placeI n f x).toNat).2.1
/-- Is there a vessel, a joint of this name? -/
def vesB (n : Nat) (f : Nat → ByteArray × Int × ByteArray) (x : ByteArray) : Bool := (List.range n).any fun i => eqB (f i).1 x && decide (0 < (f i).2.1)
def joiB (n : Nat) (f : Nat → ByteArray × Int × ByteArray) (x : ByteArray) : Bool := (List.range n).any fun i => eqB (f i).1 x && ((f i).2.1 == 0)

theorem first_of {n : Nat} {f : Nat → ByteArray} {x : ByteArray} (ha : ascB n f) (q : Nat → Bool) :
    match (List.range n).find? (fun i => eqB (f i) x) with
    | some k => k < n ∧ eqB (f k) x = true ∧ ((List.range n).any fun i => eqB (f i) x && q i) = q k
    | none => ((List.range n).any fun i => eqB (f i) x && q i) = false := by
  cases h : (List.range n).find? (fun i => eqB (f i) x) with
  | none =>
    rw [List.find?_eq_none] at h
    show ((List.range n).any fun i => eqB (f i) x && q i) = false
    rw [List.any_eq_false]
    intro i hi
    have := h i hi
    simp at this
    simp [this]
  | some k =>
    have h1 := List.find?_some h
    have h2 := List.mem_range.1 (List.mem_of_find?_eq_some h)
    refine ⟨h2, h1, ?_⟩
    rw [Bool.eq_iff_iff, List.any_eq_true]
    constructor
    · rintro ⟨i, hi, hq⟩
      rw [Bool.and_eq_true] at hq
      have e : i = k := ascB_inj ha (List.mem_range.1 hi) h2 (((eqB_iff _ _).1 hq.1).trans ((eqB_iff _ _).1 h1).symm)
      subst e; exact hq.2
    · intro hq
      exact ⟨k, List.mem_range.2 h2, by rw [Bool.and_eq_true]; exact ⟨h1, hq⟩⟩

theorem vesB_iff {n : Nat} {f : Nat → ByteArray × Int × ByteArray} {x : ByteArray} (ha : ascB n fun i => (f i).1) : vesB n f x = true ↔ 1 ≤ capI n f x := by
  have h := first_of (x := x) ha (fun i => decide (0 < (f i).2.1))
  unfold vesB capI placeI
  cases hf : (List.range n).find? (fun i => eqB (f i).1 x) with
  | none => rw [hf] at h; simp only at h; rw [h]; simp
  | some k => rw [hf] at h; simp only at h; rw [h.2.2]; simp; omega
theorem joiB_iff {n : Nat} {f : Nat → ByteArray × Int × ByteArray} {x : ByteArray} (ha : ascB n fun i => (f i).1) : joiB n f x = true ↔ capI n f x = 0 := by
  have h := first_of (x := x) ha (fun i => (f i).2.1 == 0)
  unfold joiB capI placeI
  cases hf : (List.range n).find? (fun i => eqB (f i).1 x) with
  | none => rw [hf] at h; simp only at h; rw [h]; simp
  | some k => rw [hf] at h; simp only at h; rw [h.2.2]; simp; omega

/-- Where a valve stands, -1 if it is none. -/
def valI (n : Nat) (f : Nat → ByteArray × ByteArray × ByteArray × ByteArray) (x : ByteArray) : Int := match (List.range n).find? (fun i => eqB (f i).1 x) with | some i => i | none => -1
/-- Does the valve of this name lie between these two places? By the program, by the model. -/
def liesB (n : Nat) (f : Nat → ByteArray × ByteArray × ByteArray × ByteArray) (v a b : ByteArray) : Bool := (List.range n).any fun i => eqB (f i).1 v && (endB (f i) a && eqB (behS (f i) a) b)
def joinB (n : Nat) (f : Nat → ByteArray × ByteArray × ByteArray × ByteArray) (v a b : ByteArray) : Bool := decide (0 ≤ valI n f v) && eqB (behS (f (valI n f v).toNat) a) b
theorem beh_end {g : ByteArray × ByteArray × ByteArray × ByteArray} {a b : ByteArray} (hb : 1 ≤ b.size) (h : eqB (behS g a) b = true) : endB g a = true := by
  unfold behS at h
  unfold endB
  cases h1 : eqB a g.2.1
  · cases h2 : eqB a g.2.2.1
    · rw [h1, h2] at h
      have := (eqB_iff _ _).1 h
      simp only [cond_false] at this
      rw [← this] at hb
      exact absurd hb (by decide)
    · rfl
  · rfl
theorem lies_join {n : Nat} {f : Nat → ByteArray × ByteArray × ByteArray × ByteArray} {v a b : ByteArray} (ha : ascB n fun i => (f i).1) (hb : 1 ≤ b.size) : liesB n f v a b = joinB n f v a b := by
  have h := first_of (x := v) ha (fun i => endB (f i) a && eqB (behS (f i) a) b)
  unfold liesB joinB valI
  cases hf : (List.range n).find? (fun i => eqB (f i).1 v) with
  | none => rw [hf] at h; simp only at h; rw [h]; simp
  | some k =>
    rw [hf] at h; simp only at h; rw [h.2.2]
    cases hq : eqB (behS (f k) a) b
    · simp [hq]
    · simp [hq, beh_end hb hq]

/-- A route, by the model and by the program: m places and k valves. -/
def RS (D : PD) (m : Nat) (P : Nat → ByteArray) (k : Nat) (Q : Nat → ByteArray) : Prop :=
  (2 ≤ m ∧ k + 1 = m) ∧ (1 ≤ capI D.np D.fp (P 0) ∧ 1 ≤ capI D.np D.fp (P (m - 1))) ∧
    ∀ i, i < m → (0 ≤ capI D.np D.fp (P i) ∧ hasB i P (P i) = false ∧ ((0 < i ∧ i < m - 1) → capI D.np D.fp (P i) ≤ 0)) ∧ (0 < i → joinB D.nv D.fv (Q (i - 1)) (P (i - 1)) (P i) = true)
def RI (D : PD) (m : Nat) (P : Nat → ByteArray) (k : Nat) (Q : Nat → ByteArray) : Prop :=
  (2 ≤ m ∧ k + 1 = m) ∧ (∀ i, i < m → hasB i P (P i) = false ∧ ((0 < i ∧ i < m - 1) → joiB D.np D.fp (P i) = true) ∧ (¬ (0 < i ∧ i < m - 1) → vesB D.np D.fp (P i) = true)) ∧
    ∀ i, i < k → liesB D.nv D.fv (Q i) (P i) (P (i + 1)) = true

theorem V_places {D : PD} (h : D.V) : ascB D.np fun i => (D.fp i).1 := ascB_of fun i hi h0 => (h.2.1.2 i hi).2.1 h0
theorem V_valves {D : PD} (h : D.V) : ascB D.nv fun i => (D.fv i).1 := ascB_of fun i hi h0 => (h.2.2.2 i hi).2.1 h0
theorem cap_size {D : PD} (h : D.V) {x : ByteArray} (hc : 0 ≤ capI D.np D.fp x) : 1 ≤ x.size := by
  unfold capI placeI at hc
  cases hf : (List.range D.np).find? (fun i => eqB (D.fp i).1 x) with
  | none => rw [hf] at hc; simp at hc
  | some i =>
    have h1 := List.find?_some hf
    have h2 := List.mem_range.1 (List.mem_of_find?_eq_some hf)
    rw [← eqB_size h1]
    have := (h.2.1.2 i h2).1
    unfold nameB at this
    simp only [Bool.and_eq_true, decide_eq_true_eq] at this
    exact this.1.1

theorem RI_iff {D : PD} (hV : D.V) (m : Nat) (P : Nat → ByteArray) (k : Nat) (Q : Nat → ByteArray) : RI D m P k Q ↔ RS D m P k Q := by
  have hp := V_places hV
  have hv := V_valves hV
  constructor
  · rintro ⟨⟨h1, h2⟩, h3, h4⟩
    have hc : ∀ i, i < m → 0 ≤ capI D.np D.fp (P i) := fun i hi => by
      by_cases hin : 0 < i ∧ i < m - 1
      · have := (joiB_iff hp).1 ((h3 i hi).2.1 hin); omega
      · have := (vesB_iff hp).1 ((h3 i hi).2.2 hin); omega
    refine ⟨⟨h1, h2⟩, ⟨(vesB_iff hp).1 ((h3 0 (by omega)).2.2 (by omega)), (vesB_iff hp).1 ((h3 (m - 1) (by omega)).2.2 (by omega))⟩, fun i hi => ⟨⟨hc i hi, (h3 i hi).1, fun hin => ?_⟩, fun h0 => ?_⟩⟩
    · have := (joiB_iff hp).1 ((h3 i hi).2.1 hin); omega
    · have := h4 (i - 1) (by omega)
      rw [Nat.sub_add_cancel h0, lies_join hv (cap_size hV (hc i hi))] at this
      exact this
  · rintro ⟨⟨h1, h2⟩, ⟨h3, h4⟩, h5⟩
    refine ⟨⟨h1, h2⟩, fun i hi => ⟨(h5 i hi).1.2.1, fun hin => ?_, fun hin => ?_⟩, fun i hi => ?_⟩
    · rw [joiB_iff hp]
      have := (h5 i hi).1
      have := this.2.2 hin
      omega
    · rw [vesB_iff hp]
      by_cases e : i = 0
      · subst e; exact h3
      · have : i = m - 1 := by omega
        subst this; exact h4
    · have := (h5 (i + 1) (by omega)).2 (by omega)
      rw [Nat.add_sub_cancel] at this
      rw [lies_join hv (cap_size hV (h5 (i + 1) (by omega)).1.1)]
      exact this

/-- A name put into names that ascend, if it is not there. -/
def insR : List ByteArray → ByteArray → List ByteArray
  | [], x => [x]
  | y :: l, x => bif ltB y x then y :: insR l x else bif eqB y x then y :: l else x :: y :: l
theorem insR_len : ∀ (l : List ByteArray) (x : ByteArray), (insR l x).length ≤ l.length + 1
  | [], _ => by simp [insR]
  | y :: l, x => by
    have := insR_len l x
    unfold insR
    cases ltB y x
    · cases eqB y x <;> simp
    · simpa using this
theorem ins_range (f : Nat → ByteArray) (S : Nat → Bool) (t : Nat) : ∀ (n a : Nat), (∀ i j, a ≤ i → i < j → j < a + n → ltB (f i) (f j) = true) → a ≤ t → t < a + n →
    insR (((List.range' a n).filter S).map f) (f t) = ((List.range' a n).filter fun i => S i || i == t).map f
  | 0, a, _, h1, h2 => by omega
  | n + 1, a, ha, h1, h2 => by
    rw [List.range'_succ]
    by_cases e : a = t
    · subst e
      have hrest : (List.range' (a + 1) n).filter (fun i => S i || i == a) = (List.range' (a + 1) n).filter S := by
        apply List.filter_congr
        intro i hi
        have := (List.mem_range'_1.1 hi).1
        have : (i == a) = false := by simp; omega
        rw [this, Bool.or_false]
      have hhead : (a :: List.range' (a + 1) n).filter (fun i => S i || i == a) = a :: (List.range' (a + 1) n).filter S := by
        rw [List.filter_cons_of_pos (by simp), hrest]
      rw [hhead]
      cases hs : S a
      · rw [List.filter_cons_of_neg (by simp [hs])]
        cases hl : (List.range' (a + 1) n).filter S with
        | nil => simp [insR]
        | cons b l =>
          have hb : b ∈ (List.range' (a + 1) n).filter S := by rw [hl]; exact List.mem_cons_self
          have hb' := List.mem_range'_1.1 (List.mem_filter.1 hb).1
          have hlt := ha a b (Nat.le_refl _) (by omega) (by omega)
          simp only [List.map_cons, insR]
          rw [ltB_asymm hlt, eqB_comm, ltB_ne hlt]
          rfl
      · rw [List.filter_cons_of_pos hs]
        simp only [List.map_cons, insR]
        rw [ltB_irrefl, eqB_refl]
        rfl
    · have ih := ins_range f S t n (a + 1) (fun i j hi hij hj => ha i j (by omega) hij (by omega)) (by omega) (by omega)
      cases hs : S a
      · rw [List.filter_cons_of_neg (by simp [hs]), List.filter_cons_of_neg (by simp [hs]; omega)]
        exact ih
      · rw [List.filter_cons_of_pos hs, List.filter_cons_of_pos (by simp [hs])]
        simp only [List.map_cons, insR]
        rw [ha a t (Nat.le_refl _) (by omega) (by omega), cond_true, ih]

/-- What the model does at one place of a route: the names that it puts in. -/
def accL (k : Nat) (Q : Nat → ByteArray) (out l : List ByteArray) : List ByteArray := l.foldl (fun o x => bif hasB k Q x then o else insR o x) out
theorem accL_snoc (k : Nat) (Q : Nat → ByteArray) (out l : List ByteArray) (x : ByteArray) : accL k Q out (l ++ [x]) = bif hasB k Q x then accL k Q out l else insR (accL k Q out l) x := by
  simp [accL, List.foldl_append]
theorem acc_range {n : Nat} {f : Nat → ByteArray} (ha : ascB n f) (k : Nat) (Q : Nat → ByteArray) : ∀ (L : List Nat) (S : Nat → Bool), (∀ t ∈ L, t < n) →
    accL k Q (((List.range n).filter S).map f) (L.map f) = ((List.range n).filter fun i => S i || (L.contains i && !hasB k Q (f i))).map f
  | [], S, _ => by simp [accL]
  | t :: L, S, h => by
    have ht := h t List.mem_cons_self
    have step : accL k Q (((List.range n).filter S).map f) ((t :: L).map f) = accL k Q (bif hasB k Q (f t) then ((List.range n).filter S).map f else insR (((List.range n).filter S).map f) (f t)) (L.map f) := rfl
    rw [step]
    have ih := fun S' => acc_range ha k Q L S' (fun u hu => h u (List.mem_cons_of_mem _ hu))
    cases hq : hasB k Q (f t)
    · rw [cond_false, List.range_eq_range', ins_range f S t n 0 (fun i j _ hij hj => ha i j hij (by omega)) (by omega) (by omega), ← List.range_eq_range', ih]
      congr 1
      apply List.filter_congr
      intro i _
      by_cases e : i = t
      · subst e; simp [hq]
      · rw [List.contains_cons, beq_eq_false_iff_ne.2 e, Bool.false_or, Bool.or_false]
    · rw [cond_true, ih]
      congr 1
      apply List.filter_congr
      intro i _
      by_cases e : i = t
      · subst e; simp [hq]
      · rw [List.contains_cons, beq_eq_false_iff_ne.2 e, Bool.false_or]

/-- The guards, place by place, as the model finds them; and valve by valve, as the program does. -/
def gdS (D : PD) (P : Nat → ByteArray) (k : Nat) (Q : Nat → ByteArray) : Nat → List ByteArray
  | 0 => []
  | i + 1 => accL k Q (gdS D P k Q i) (besN D.fv (P i) D.nv)
def gdB (D : PD) (m : Nat) (P : Nat → ByteArray) (k : Nat) (Q : Nat → ByteArray) (i : Nat) : Bool := (hasB m P (D.fv i).2.1 || hasB m P (D.fv i).2.2.1) && !hasB k Q (D.fv i).1
def gdN (D : PD) (m : Nat) (P : Nat → ByteArray) (k : Nat) (Q : Nat → ByteArray) (n : Nat) : List ByteArray := ((List.range n).filter (gdB D m P k Q)).map fun i => (D.fv i).1

theorem hasB_succ (n : Nat) (f : Nat → ByteArray) (x : ByteArray) : hasB (n + 1) f x = (hasB n f x || eqB (f n) x) := by
  simp [hasB, List.range_succ]
theorem gdS_eq {D : PD} (hV : D.V) (P : Nat → ByteArray) (k : Nat) (Q : Nat → ByteArray) : ∀ m, gdS D P k Q m = gdN D m P k Q D.nv
  | 0 => by simp [gdS, gdN, gdB, hasB]
  | m + 1 => by
    have ih := gdS_eq hV P k Q m
    have hL : ∀ t ∈ (List.range D.nv).filter (fun i => endB (D.fv i) (P m)), t < D.nv := fun t ht => List.mem_range.1 (List.mem_filter.1 ht).1
    rw [gdS, ih]
    unfold gdN besN
    rw [acc_range (V_valves hV) k Q _ _ hL]
    congr 1
    apply List.filter_congr
    intro i hi
    have hc : ((List.range D.nv).filter fun i => endB (D.fv i) (P m)).contains i = endB (D.fv i) (P m) := by
      rw [Bool.eq_iff_iff, List.contains_iff_mem, List.mem_filter]
      exact ⟨fun h => h.2, fun h => ⟨hi, h⟩⟩
    rw [hc]
    unfold gdB endB
    rw [hasB_succ, hasB_succ]
    cases hasB m P (D.fv i).2.1 <;> cases hasB m P (D.fv i).2.2.1 <;> cases eqB (P m) (D.fv i).2.1 <;> cases eqB (P m) (D.fv i).2.2.1 <;> cases hasB k Q (D.fv i).1 <;> rfl
theorem gdN_yes {D : PD} {m : Nat} {P : Nat → ByteArray} {k : Nat} {Q : Nat → ByteArray} {n : Nat} (h : gdB D m P k Q n = true) : gdN D m P k Q (n + 1) = gdN D m P k Q n ++ [(D.fv n).1] := by
  simp [gdN, List.range_succ, List.filter_append, h]
theorem gdN_no {D : PD} {m : Nat} {P : Nat → ByteArray} {k : Nat} {Q : Nat → ByteArray} {n : Nat} (h : gdB D m P k Q n = false) : gdN D m P k Q (n + 1) = gdN D m P k Q n := by
  simp [gdN, List.range_succ, List.filter_append, h]
theorem gdN_len (D : PD) (m : Nat) (P : Nat → ByteArray) (k : Nat) (Q : Nat → ByteArray) (n : Nat) : (gdN D m P k Q n).length ≤ n := by
  have := List.length_filter_le (gdB D m P k Q) (List.range n)
  simp only [gdN, List.length_map]
  simpa using this

end Go.Proofs.YtndacfockllehaaGreat
