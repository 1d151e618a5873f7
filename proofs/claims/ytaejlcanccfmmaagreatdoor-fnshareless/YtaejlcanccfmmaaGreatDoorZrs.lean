import Derived.Test.YtaejlcanccfmmaaGreatDoorM16
namespace Go.Proofs.YtaejlcanccfmmaaGreatDoor
open Go.RowKit
theorem eqB_iffM (a b : ByteArray) : eqB a b = true ↔ a = b := by
  constructor
  · intro h
    simp only [eqB, beq_iff_eq, ByteArray.toList_eq] at h
    exact ByteArray.ext (Array.toList_inj.1 h)
  · rintro rfl
    exact eqB_refl a
theorem hasB_memM (l : List ByteArray) (x : ByteArray) : hasB l x = true → x ∈ l := by
  unfold hasB
  rw [List.any_eq_true]
  rintro ⟨y, hy, he⟩; rw [eqB_iffM] at he; exact he ▸ hy
def SmL (l : List ByteArray) : Prop := l.length ≤ 64 ∧ ∀ x ∈ l, x.size ≤ 64
def SmB (Bs : List DShareBatch) : Prop := Bs.length ≤ 64 ∧ ∀ f ∈ Bs, f.1.size ≤ 64 ∧ SmL f.2.1 ∧ SmL f.2.2
def SmD (D : DShareBook) : Prop := SmL D.1 ∧ SmB D.2
theorem sum_bound {α : Type} [Lay α] {c : Nat} : ∀ (l : List α), (∀ x ∈ l, Lay.tot x ≤ c) → (l.map Lay.tot).sum ≤ l.length * c
  | [], _ => by simp
  | x :: l, h => by
    have h1 := h x (by simp)
    have h2 := sum_bound l (fun y hy => h y (by simp [hy]))
    rw [List.map_cons, List.sum_cons, List.length_cons, Nat.add_mul]
    omega
theorem totL_bound {α : Type} [Lay α] {c : Nat} (l : List α) (h : ∀ x ∈ l, Lay.tot x ≤ c) : totL l ≤ l.length + l.length * c := by
  unfold totL sumTo
  rw [List.take_length]
  have := sum_bound l h
  omega
theorem SmL.tot {l : List ByteArray} (h : SmL l) : totL l ≤ 4160 := by
  have h1 := totL_bound (c := 64) l (fun x hx => h.2 x hx)
  have h2 := h.1
  have h3 : l.length * 64 ≤ 64 * 64 := Nat.mul_le_mul_right _ h2
  omega
theorem SmB.tot {Bs : List DShareBatch} (h : SmB Bs) : totL Bs ≤ 536640 := by
  have h1 := totL_bound (c := 8384) Bs (fun f hf => by
    obtain ⟨a, b, c⟩ := h.2 f hf
    have := b.tot
    have := c.tot
    rw [tot_DShareBatch]
    omega)
  have h2 := h.1
  have h3 : Bs.length * 8384 ≤ 64 * 8384 := Nat.mul_le_mul_right _ h2
  omega
theorem SmD.tot {D : DShareBook} (h : SmD D) : Lay.tot D ≤ 1048576 := by
  have := h.1.tot
  have := h.2.tot
  rw [tot_DShareBook]
  omega
theorem SmL.of_sub {T l : List ByteArray} (hT : SmL T) (h : subB T l = true) (hl : l.length ≤ 64) : SmL l := by
  rw [subB, ok_iff] at h
  refine ⟨hl, fun x hx => ?_⟩
  obtain ⟨i, hi, rfl⟩ := List.getElem_of_mem hx
  have := h.2 i hi
  rw [tst, Bool.and_eq_true] at this
  exact hT.2 _ (hasB_memM _ _ this.1)
theorem less_decM : ∀ x y : List UInt8, Op.bytesLess x y = decide (x < y)
  | [], [] => by simp [Op.bytesLess]
  | _ :: _, [] => by simp [Op.bytesLess]
  | [], _ :: _ => by simp [Op.bytesLess]
  | a :: x, b :: y => by
    have ih := less_decM x y
    unfold Op.bytesLess
    rw [ih]
    by_cases h1 : a < b <;> by_cases h2 : a = b <;> by_cases h3 : x < y <;> simp [List.cons_lt_cons_iff, h1, h2, h3]
theorem ltB_iffM (a b : ByteArray) : ltB a b = true ↔ a.toList < b.toList := by simp [ltB, less_decM]
theorem ltB_transM {a b c : ByteArray} (h1 : ltB a b = true) (h2 : ltB b c = true) : ltB a c = true := by
  rw [ltB_iffM] at *; exact List.lt_trans h1 h2
theorem ltB_irreflM (a : ByteArray) : ltB a a = false := by
  cases h : ltB a a
  · rfl
  · rw [ltB_iffM] at h; exact absurd h (List.lt_irrefl _)
theorem asc_farM {l : List ByteArray} (h : ∀ i (hi : i < l.length), asO ltB (prevO l i) l[i] = true) : ∀ (j i : Nat) (hj : j < l.length) (hij : i < j), ltB (l[i]'(by omega)) l[j] = true
  | 0, i, _, hij => by omega
  | j + 1, i, hj, hij => by
    have h1 := h (j + 1) hj
    rw [prev_succ l j (by omega)] at h1
    have h2 : ltB (l[j]'(by omega)) l[j + 1] = true := h1
    by_cases e : i = j
    · subst e; exact h2
    · have h3 := asc_farM (l := l) h j i (by omega) (by omega)
      exact ltB_transM h3 h2
theorem sub_lenM {T l : List ByteArray} (h : subB T l = true) : l.length ≤ T.length := by
  rw [subB, ok_iff] at h
  have nd : l.Nodup := by
    refine List.pairwise_iff_getElem.2 fun i j hi hj hij e => ?_
    have := asc_farM (fun i hi => by have := h.2 i hi; rw [tst, Bool.and_eq_true] at this; exact this.2) j i hj hij
    rw [e, ltB_irreflM] at this
    cases this
  refine nd.length_le_of_subset fun x hx => ?_
  obtain ⟨i, hi, rfl⟩ := List.getElem_of_mem hx
  have := h.2 i hi
  rw [tst, Bool.and_eq_true] at this
  exact hasB_memM _ _ this.1
theorem name_smallM {s : ByteArray} (h : nameB s = true) : s.size ≤ 8 := by
  unfold nameB at h
  rw [Bool.and_eq_true, decide_eq_true_iff] at h
  exact h.1.2
theorem bok_small {D : DShareBook} (h : BokP D) : SmD D ∧ D.1.length ≤ 8 ∧ D.2.length ≤ 5 := by
  have h1 := h.things
  rw [ok_iff] at h1
  have hT : SmL D.1 := ⟨by omega, fun x hx => by
    obtain ⟨i, hi, rfl⟩ := List.getElem_of_mem hx
    have := h1.2 i hi
    rw [tst, Bool.and_eq_true] at this
    have := name_smallM this.1
    omega⟩
  refine ⟨⟨hT, by have := h.len; omega, fun f hf => ?_⟩, h1.1, h.len⟩
  obtain ⟨i, hi, rfl⟩ := List.getElem_of_mem hf
  have hb := (h.row i hi).bat
  unfold batB at hb
  simp only [Bool.and_eq_true] at hb
  have e1 := sub_lenM hb.1.2
  have e2 := sub_lenM hb.2
  have sn : SmL D.2[i].2.2 := hT.of_sub hb.1.2 (by omega)
  exact ⟨by have := name_smallM hb.1.1.1; omega, sn.of_sub hb.2 (by omega), sn⟩
noncomputable def levS (D : DShareBook) (x : ByteArray) : DShareBook × Int :=
  if bokB D = true then (if atZI D.2 x < 0 then (D, 3) else ((D.1, D.2.take (atZI D.2 x).toNat ++ D.2.drop ((atZI D.2 x).toNat + 1)), 0)) else (([], []), 1)
def posB (Bs : List DShareBatch) (x : ByteArray) : Nat := (Bs.takeWhile fun f => ltB f.1 x).length
noncomputable def entS (D : DShareBook) (x : ByteArray) (nd : List ByteArray) : DShareBook × Int :=
  if bokB D = true then (if nameB x = true ∧ subB D.1 nd = true then (if 0 ≤ atZI D.2 x then (D, 3) else if 5 ≤ D.2.length then (D, 4) else ((D.1, D.2.take (posB D.2 x) ++ [(x, [], nd)] ++ D.2.drop (posB D.2 x)), 0)) else (D, 2)) else (([], []), 1)
def lesB (f : DShareBatch) (nd : List ByteArray) : DShareBatch := (f.1, f.2.1.filter (fun y => hasB nd y), nd)
noncomputable def lesS (D : DShareBook) (x : ByteArray) (nd : List ByteArray) : DShareBook × Int :=
  if bokB D = true then (if atZI D.2 x < 0 then (D, 3) else if subB (btN D.2 (atZI D.2 x).toNat).2.2 nd = true then ((D.1, D.2.set (atZI D.2 x).toNat (lesB (btN D.2 (atZI D.2 x).toNat) nd)), 0) else (D, 2)) else (([], []), 1)
theorem pos_le (Bs : List DShareBatch) (x : ByteArray) : posB Bs x ≤ Bs.length := by
  unfold posB
  exact (List.takeWhile_sublist _).length_le
theorem pos_at {x : ByteArray} : ∀ {Bs : List DShareBatch} {k : Nat}, k ≤ Bs.length → (∀ j (hj : j < Bs.length), j < k → ltB Bs[j].1 x = true) → (∀ h : k < Bs.length, ltB Bs[k].1 x = false) → posB Bs x = k
  | [], k, hk, _, _ => by simp at hk; subst hk; rfl
  | f :: Bs, 0, _, _, h2 => by
    have := h2 (by simp)
    unfold posB
    rw [List.takeWhile_cons, show ltB f.1 x = false from this]; rfl
  | f :: Bs, k + 1, hk, h1, h2 => by
    have ih := pos_at (x := x) (Bs := Bs) (k := k) (by simpa using hk) (fun j hj hjk => by have := h1 (j + 1) (by simpa using hj) (by omega); simpa using this) (fun h => by have := h2 (by simpa using h); simpa using this)
    have h0 := h1 0 (by simp) (by omega)
    unfold posB at ih ⊢
    rw [List.takeWhile_cons, show ltB f.1 x = true from h0]
    simp [ih]
section
variable {D : DShareBook} {x : ByteArray} {nd : List ByteArray}
theorem sm_set {Bs : List DShareBatch} (h : SmB Bs) {k : Nat} {f : DShareBatch} (hf : f.1.size ≤ 64 ∧ SmL f.2.1 ∧ SmL f.2.2) : SmB (Bs.set k f) := ⟨by rw [List.length_set]; exact h.1, fun g hg => by
  rcases List.mem_or_eq_of_mem_set hg with hg | rfl
  · exact h.2 g hg
  · exact hf⟩
theorem sm_nil : SmD (([], []) : DShareBook) := ⟨⟨by simp, fun x hx => by cases hx⟩, ⟨by simp, fun x hx => by cases hx⟩⟩
theorem ent_small (h : SmD D) (hn : SmL nd) (hx : x.size ≤ 64) : SmD (entS D x nd).1 := by
  unfold entS
  split
  · split
    · split
      · exact h
      · split
        · exact h
        · rename_i h5
          refine ⟨h.1, ?_, fun f hf => ?_⟩
          · simp only [List.length_append, List.length_take, List.length_drop, List.length_cons, List.length_nil]; omega
          · rcases List.mem_append.1 hf with hf | hf
            · rcases List.mem_append.1 hf with hf | hf
              · exact h.2.2 f (List.mem_of_mem_take hf)
              · rw [List.mem_singleton.1 hf]
                exact ⟨hx, ⟨by simp, fun y hy => by cases hy⟩, hn⟩
            · exact h.2.2 f (List.mem_of_mem_drop hf)
    · exact h
  · exact sm_nil
theorem les_small (h : SmD D) (hn : SmL nd) : SmD (lesS D x nd).1 := by
  unfold lesS
  split
  · split
    · exact h
    · split
      · by_cases hk : (atZI D.2 x).toNat < D.2.length
        · have hf := h.2.2 D.2[(atZI D.2 x).toNat] (List.getElem_mem hk)
          refine ⟨h.1, sm_set h.2 ?_⟩
          rw [btN_at hk]
          exact ⟨hf.1, ⟨Nat.le_trans (List.length_filter_le _ _) hf.2.1.1, fun y hy => hf.2.1.2 y (List.mem_filter.1 hy).1⟩, hn⟩
        · rw [List.set_eq_of_length_le (by omega)]
          exact h
      · exact h
  · exact sm_nil
end
end Go.Proofs.YtaejlcanccfmmaaGreatDoor
