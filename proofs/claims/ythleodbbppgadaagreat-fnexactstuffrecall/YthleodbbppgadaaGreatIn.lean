/-
  The program's book that is ok and the model's are the same: plain lists, no program is named here.
-/
import Derived.Test.YthleodbbppgadaaGreatIj
import Derived.Test.YthleodbbppgadaaGreatMt
namespace Go.Proofs.YthleodbbppgadaaGreat
open Go.RowKit

theorem less_dec : ∀ x y : List UInt8, Op.bytesLess x y = decide (x < y)
  | [], [] => by simp [Op.bytesLess]
  | _ :: _, [] => by simp [Op.bytesLess]
  | [], _ :: _ => by simp [Op.bytesLess]
  | a :: x, b :: y => by
    have ih := less_dec x y
    unfold Op.bytesLess
    rw [ih]
    by_cases h1 : a < b <;> by_cases h2 : a = b <;> by_cases h3 : x < y <;> simp [List.cons_lt_cons_iff, h1, h2, h3]
theorem ltB_iff (a b : ByteArray) : ltB a b = true ↔ a.toList < b.toList := by simp [ltB, less_dec]
theorem ltB_trans {a b c : ByteArray} (h1 : ltB a b = true) (h2 : ltB b c = true) : ltB a c = true := by
  rw [ltB_iff] at *; exact List.lt_trans h1 h2
theorem ltB_irrefl (a : ByteArray) : ltB a a = false := by
  cases h : ltB a a
  · rfl
  · rw [ltB_iff] at h; exact absurd h (List.lt_irrefl _)

section
variable {α : Type}
theorem ok_congr {lim : Nat} {T T' : Option α → α → Bool} {l : List α} (h : ∀ o x, T o x = T' o x) : okB lim T l = okB lim T' l := by
  have : T = T' := funext fun o => funext fun x => h o x
  rw [this]
theorem asc_pair {R : α → α → Bool} (tr : ∀ a b c, R a b = true → R b c = true → R a c = true) {l : List α} (h : ∀ i (hi : i < l.length), asO R (prevO l i) l[i] = true) :
    ∀ j (hj : j < l.length) i (_ : i < j), R (l[i]'(by omega)) l[j] = true
  | 0, _, i, hi => by omega
  | j + 1, hj, i, hi => by
    have hs := h (j + 1) hj
    rw [prev_succ l j (by omega)] at hs
    have hs' : R (l[j]'(by omega)) l[j + 1] = true := hs
    by_cases e : i = j
    · subst e; exact hs'
    · exact tr _ _ _ (asc_pair tr h j (by omega) i (by omega)) hs'
/-- What ascends and is among others is no longer than they. -/
theorem pigeon [DecidableEq α] : ∀ (l m : List α), l.Nodup → (∀ x ∈ l, x ∈ m) → l.length ≤ m.length
  | [], m, _, _ => Nat.zero_le _
  | x :: l, m, hn, hs => by
    have hx := hs x (by simp)
    obtain ⟨hxl, hl⟩ := List.nodup_cons.1 hn
    have ih := pigeon l (m.erase x) hl (fun y hy => by
      have hne : y ≠ x := fun e => hxl (e ▸ hy)
      exact (List.mem_erase_of_ne hne).2 (hs y (by simp [hy])))
    rw [List.length_erase_of_mem hx] at ih
    have : 0 < m.length := List.length_pos_of_mem hx
    simp only [List.length_cons]
    omega
theorem nodup_of {β : Type} {l : List α} {g : α → β} (h : ∀ j (hj : j < l.length) i (_ : i < j), g (l[i]'(by omega)) ≠ g l[j]) : (l.map g).Nodup := by
  rw [List.nodup_iff_pairwise_ne, List.pairwise_iff_getElem]
  intro i j hi hj hij
  simp only [List.getElem_map]
  exact h j (by simpa using hj) i hij
end

theorem foe_comm (foes : List DStuffFoe) (x y : ByteArray) : foeB foes x y = foeB foes y x := by
  unfold foeB
  congr 1
  funext f
  exact Bool.or_comm _ _
theorem foe_self {foes : List DStuffFoe} (h : okB 12 foeT foes = true) (s : ByteArray) : foeB foes s s = false := by
  unfold foeB
  refine any_no fun j hj => ?_
  have h1 := (ok_iff.1 h).2 j hj
  have h2 : ltB foes[j].1 foes[j].2 = true := by
    cases hp : prevO foes j with
    | none => rw [hp] at h1; simp only [foeT, Bool.and_eq_true] at h1; exact h1.2
    | some p => rw [hp] at h1; simp only [foeT, Bool.and_eq_true] at h1; exact h1.1.2
  cases h3 : eqB foes[j].1 s && eqB foes[j].2 s || eqB foes[j].1 s && eqB foes[j].2 s
  · rfl
  · rw [Bool.or_self, Bool.and_eq_true, eqB_iff, eqB_iff] at h3
    rw [h3.1, h3.2, ltB_irrefl] at h2
    cases h2
theorem lot_known {lots : List DStuffLot} (h : okB 16 lotT lots = true) (x : ByteArray) : (!((stuffOf lots x).toList == [])) = decide (0 ≤ lotI lots x) := by
  by_cases hx : 0 ≤ lotI lots x
  · obtain ⟨i, hi, _, h2⟩ := stuff_idx hx
    have h1 := (ok_iff.1 h).2 i hi
    have hn : nameB lots[i].2 = true := by
      cases hp : prevO lots i with
      | none => rw [hp] at h1; simp only [lotT, Bool.and_eq_true] at h1; exact h1.2
      | some p => rw [hp] at h1; simp only [lotT, Bool.and_eq_true] at h1; exact h1.1.2
    rw [h2, decide_eq_true hx]
    have hs : 1 ≤ lots[i].2.size := by
      unfold nameB at hn
      rw [Bool.and_eq_true, decide_eq_true_iff] at hn
      exact hn.1.1
    cases hb : (lots[i].2.toList == [])
    · rfl
    · rw [beq_iff_eq, ByteArray.toList_eq] at hb
      rw [sz_list, hb] at hs
      simp at hs
  · rw [stuff_neg hx, decide_eq_false hx, ByteArray.toList_eq]
    rfl
theorem may_same {lots : List DStuffLot} (h : okB 16 lotT lots = true) (o : Option ByteArray) (x : ByteArray) : mayP lots o x = mayT lots o x := by
  have hk := lot_known h x
  cases o with
  | none => simp only [mayP, tst, asO, mayT, Bool.and_true]; rw [hk]; rfl
  | some p => simp only [mayP, tst, asO, mayT]; rw [hk]; rfl
theorem part_same (may : List ByteArray) (o : Option DStuffPart) (x : DStuffPart) : partP may o x = partT may o x := by
  cases o with
  | none => simp only [partP, tst, asO, partT, Bool.and_true]; exact Bool.and_comm _ _
  | some p => simp only [partP, tst, asO, partT]; rw [Bool.and_comm (inB x.2 1 1000)]
theorem foe_same (o : Option DStuffFoe) (x : DStuffFoe) : tst (fun f : DStuffFoe => nameB f.1 && nameB f.2 && ltB f.1 f.2) (fun p f : DStuffFoe => befB p f) o x = foeT o x := by
  cases o with
  | none => simp only [tst, asO, foeT, Bool.and_true]
  | some p =>
    simp only [tst, asO, foeT, befB]
    cases he : eqB p.1 x.1
    · simp
    · rw [eqB_iff] at he
      rw [he, ltB_irrefl]
      simp
theorem lot_same (o : Option DStuffLot) (x : DStuffLot) : tst (fun f : DStuffLot => nameB f.1 && nameB f.2) (fun p f : DStuffLot => ltB p.1 f.1) o x = lotT o x := by
  cases o with
  | none => simp only [tst, asO, lotT, Bool.and_true]
  | some p => rfl

theorem lots_len {foes : List DStuffFoe} {lots : List DStuffLot} {parts : List DStuffPart} {may : List ByteArray} {most : Int} (hl : okB 16 lotT lots = true) (h : HoldsP foes lots parts may most) : may.length ≤ lots.length := by
  have hp := asc_pair (R := fun p f : ByteArray => ltB p f) (fun _ _ _ => ltB_trans) (l := may) (fun i hi => by
    have := (h.2.2 i hi).1
    rw [← may_same hl] at this
    unfold mayP tst at this
    rw [Bool.and_eq_true] at this
    exact this.2)
  have hn : (may.map id).Nodup := nodup_of (fun j hj i hij e => by have := hp j hj i hij; rw [show may[i] = may[j] from e, ltB_irrefl] at this; cases this)
  rw [List.map_id] at hn
  have := pigeon may (lots.map (fun p => p.1)) hn (fun x hx => by
    obtain ⟨i, hi, rfl⟩ := List.getElem_of_mem hx
    have := (h.2.2 i hi).1
    rw [← may_same hl] at this
    unfold mayP tst at this
    rw [Bool.and_eq_true, decide_eq_true_iff] at this
    obtain ⟨q, hq, _, h3, _⟩ := idx_spec this.1
    rw [eqB_iff] at h3
    exact List.mem_map.2 ⟨lots[q], List.getElem_mem hq, h3⟩)
  simpa using this
theorem parts_len {foes : List DStuffFoe} {lots : List DStuffLot} {parts : List DStuffPart} {may : List ByteArray} {most : Int} (h : HoldsP foes lots parts may most) : parts.length ≤ may.length := by
  have hx : ∀ i (hi : i < parts.length), partP may (prevO parts i) parts[i] = true := fun i hi => by rw [part_same]; exact h.1 i hi
  have hp := asc_pair (R := fun p f : DStuffPart => ltB p.1 f.1) (fun _ _ _ => ltB_trans) (l := parts) (fun i hi => by
    have := hx i hi
    unfold partP tst at this
    rw [Bool.and_eq_true] at this
    exact this.2)
  have hn : (parts.map (fun p => p.1)).Nodup := nodup_of (fun j hj i hij e => by have := hp j hj i hij; rw [e, ltB_irrefl] at this; cases this)
  have := pigeon (parts.map (fun p => p.1)) may hn (fun y hy => by
    obtain ⟨p, hp', rfl⟩ := List.mem_map.1 hy
    obtain ⟨i, hi, rfl⟩ := List.getElem_of_mem hp'
    have := hx i hi
    unfold partP tst at this
    rw [Bool.and_eq_true, Bool.and_eq_true] at this
    obtain ⟨z, hz, he⟩ := List.any_eq_true.1 this.1.2
    rw [eqB_iff] at he
    rw [← he]; exact hz)
  simpa using this
theorem psum_mono {parts : List DStuffPart} (h : ∀ i (hi : i < parts.length), 0 ≤ parts[i].2) : ∀ d k, k + d ≤ parts.length → psum parts k ≤ psum parts (k + d)
  | 0, k, _ => Int.le_refl _
  | d + 1, k, hk => by
    have ih := psum_mono h d k (by omega)
    have := psum_succ parts (k + d) (by omega)
    have := h (k + d) (by omega)
    rw [← Nat.add_assoc]
    omega

theorem hold_same {foes : List DStuffFoe} {lots : List DStuffLot} (hf : okB 12 foeT foes = true) (hl : okB 16 lotT lots = true) (parts : List DStuffPart) (may : List ByteArray) (most : Int) :
    (mayB foes lots may && partsB parts may most) = holdsB foes lots parts may most := by
  rw [Bool.eq_iff_iff]
  constructor
  · intro h
    unfold mayB partsB at h
    simp only [Bool.and_eq_true, Bool.not_eq_true', decide_eq_true_iff] at h
    obtain ⟨⟨h1, h2⟩, h3, h4⟩ := h
    have hm := (ok_iff.1 h1).2
    have hp := (ok_iff.1 h3).2
    have hknown : ∀ i (hi : i < may.length), 0 ≤ lotI lots may[i] := fun i hi => by
      have := hm i hi
      unfold mayP tst at this
      rw [Bool.and_eq_true, decide_eq_true_iff] at this
      exact this.1
    have hnn : ∀ i (hi : i < parts.length), 0 ≤ parts[i].2 := fun i hi => by
      have := hp i hi
      unfold partP tst at this
      rw [Bool.and_eq_true, Bool.and_eq_true] at this
      have := of_decide_eq_true this.1.1
      omega
    refine holds_yes ⟨fun i hi => by rw [← part_same]; exact hp i hi, fun k hk => ?_, fun i hi => ⟨by rw [← may_same hl]; exact hm i hi, fun k hk => ?_⟩⟩
    · have := psum_mono hnn (parts.length - k) k (by omega)
      rw [show k + (parts.length - k) = parts.length by omega] at this
      omega
    · unfold meetL at h2
      rw [List.any_eq_false] at h2
      have a1 : stuffOf lots may[i] ∈ stuffsL lots may := (stuffsK_mem lots may _ _ (Nat.le_refl _)).2 ⟨i, hi, hi, hknown i hi, rfl⟩
      have a2 : stuffOf lots (may[k]'(by omega)) ∈ stuffsL lots may := (stuffsK_mem lots may _ _ (Nat.le_refl _)).2 ⟨k, by omega, by omega, hknown k (by omega), rfl⟩
      have h5 := h2 _ a1
      rw [Bool.not_eq_true, List.any_eq_false] at h5
      have h6 := h5 _ a2
      rwa [Bool.not_eq_true] at h6
  · intro h
    have hH : HoldsP foes lots parts may most := by
      unfold holdsB at h
      exact @of_decide_eq_true _ (Classical.propDecidable _) h
    have e1 : okB lots.length (mayP lots) may = true := ok_yes (lots_len hl hH) (fun i hi => by rw [may_same hl]; exact (hH.2.2 i hi).1)
    have e2 : okB may.length (partP may) parts = true := ok_yes (parts_len hH) (fun i hi => by rw [part_same]; exact hH.1 i hi)
    have e3 : meetL foes lots may may = false := by
      unfold meetL
      rw [List.any_eq_false]
      intro a ha
      rw [Bool.not_eq_true, List.any_eq_false]
      intro b hb
      rw [Bool.not_eq_true]
      obtain ⟨i, hi, _, _, rfl⟩ := (stuffsK_mem lots may _ _ (Nat.le_refl _)).1 ha
      obtain ⟨k, hk, _, _, rfl⟩ := (stuffsK_mem lots may _ _ (Nat.le_refl _)).1 hb
      rcases Nat.lt_trichotomy i k with h' | h' | h'
      · rw [foe_comm]; exact (hH.2.2 k hk).2 i h'
      · subst h'; exact foe_self hf _
      · exact (hH.2.2 i hi).2 k h'
    unfold mayB partsB
    rw [e1, e2, e3, decide_eq_true (hH.2.1 _ (Nat.le_refl _))]
    rfl

/-- One element of each list that the program takes. -/
def foeQ : Option DStuffFoe → DStuffFoe → Bool := tst (fun f : DStuffFoe => nameB f.1 && nameB f.2 && ltB f.1 f.2) (fun p f : DStuffFoe => befB p f)
def lotQ : Option DStuffLot → DStuffLot → Bool := tst (fun f : DStuffLot => nameB f.1 && nameB f.2) (fun p f : DStuffLot => ltB p.1 f.1)
def vesQ : Option DStuffVessel → DStuffVessel → Bool := tst (fun f : DStuffVessel => nameB f.1 && inB f.2.1 1 1000) (fun p f : DStuffVessel => ltB p.1 f.1)
def outQ (ves : List DStuffVessel) : Option DStuffOut → DStuffOut → Bool := tst (fun f : DStuffOut => nameB f.1 && !decide (0 ≤ idxI ves (fun p : DStuffVessel => eqB p.1 f.1))) (fun p f : DStuffOut => ltB p.1 f.1)
/-- A book that the program takes. -/
noncomputable def bookI (a : DStuffBook) : Bool := okB 12 foeQ a.1 && (okB 16 lotQ a.2.1 && (okB 8 vesQ a.2.2.1 && (okB 12 (outQ a.2.2.1) a.2.2.2 && holdI a)))

theorem ok_and {α : Type} {lim : Nat} {Q : Option α → α → Bool} {P : α → Bool} {l : List α} : okB lim (fun o x => Q o x && P x) l = (okB lim Q l && l.all P) := by
  rw [Bool.eq_iff_iff, Bool.and_eq_true, ok_iff, ok_iff]
  constructor
  · rintro ⟨h0, h⟩
    exact ⟨⟨h0, fun i hi => ((Bool.and_eq_true _ _).mp (h i hi)).1⟩, all_yes (fun i hi => ((Bool.and_eq_true _ _).mp (h i hi)).2)⟩
  · rintro ⟨⟨h0, h⟩, h'⟩
    exact ⟨h0, fun i hi => (Bool.and_eq_true _ _).mpr ⟨h i hi, (List.all_eq_true.1 h') _ (List.getElem_mem hi)⟩⟩
theorem ves_and (foes : List DStuffFoe) (lots : List DStuffLot) (o : Option DStuffVessel) (f : DStuffVessel) : vesT foes lots o f = (vesQ o f && holdsB foes lots f.2.2.1 f.2.2.2 f.2.1) := by
  cases o with
  | none => simp only [vesT, vesQ, tst, asO, Bool.and_true]
  | some p =>
    simp only [vesT, vesQ, tst, asO]
    cases nameB f.1 <;> cases ltB p.1 f.1 <;> cases inB f.2.1 1 1000 <;> rfl
theorem out_and (foes : List DStuffFoe) (lots : List DStuffLot) (ves : List DStuffVessel) (o : Option DStuffOut) (f : DStuffOut) : outT foes lots ves o f = (outQ ves o f && holdsB foes lots f.2.1 f.2.2 1000) := by
  cases o with
  | none => simp only [outT, outQ, tst, asO, Bool.and_true]
  | some p =>
    simp only [outT, outQ, tst, asO]
    cases nameB f.1 <;> cases ltB p.1 f.1 <;> cases decide (0 ≤ idxI ves (fun p : DStuffVessel => eqB p.1 f.1)) <;> rfl
theorem book_same (a : DStuffBook) : bookI a = bookB a := by
  have e1 : okB 12 foeQ a.1 = okB 12 foeT a.1 := ok_congr foe_same
  have e2 : okB 16 lotQ a.2.1 = okB 16 lotT a.2.1 := ok_congr lot_same
  have e3 : okB 8 (vesT a.1 a.2.1) a.2.2.1 = (okB 8 vesQ a.2.2.1 && a.2.2.1.all (fun f => holdsB a.1 a.2.1 f.2.2.1 f.2.2.2 f.2.1)) := (ok_congr (ves_and a.1 a.2.1)).trans ok_and
  have e4 : okB 12 (outT a.1 a.2.1 a.2.2.1) a.2.2.2 = (okB 12 (outQ a.2.2.1) a.2.2.2 && a.2.2.2.all (fun f => holdsB a.1 a.2.1 f.2.1 f.2.2 1000)) := (ok_congr (out_and a.1 a.2.1 a.2.2.1)).trans ok_and
  unfold bookI
  rw [e1, e2]
  cases h1 : okB 12 foeT a.1
  · rw [book_no (fun h => by have := h.1; rw [h1] at this; cases this)]; rfl
  · cases h2 : okB 16 lotT a.2.1
    · rw [book_no (fun h => by have := h.2.1; rw [h2] at this; cases this)]; rfl
    · have q1 : vesH a.1 a.2.1 = fun f => holdsB a.1 a.2.1 f.2.2.1 f.2.2.2 f.2.1 := funext fun f => hold_same h1 h2 _ _ _
      have q2 : outH a.1 a.2.1 = fun f => holdsB a.1 a.2.1 f.2.1 f.2.2 1000 := funext fun f => hold_same h1 h2 _ _ _
      unfold holdI
      rw [q1, q2, Bool.eq_iff_iff]
      constructor
      · intro h
        simp only [Bool.true_and, Bool.and_eq_true] at h
        refine book_yes ⟨h1, h2, ?_, ?_⟩
        · rw [e3, h.1, h.2.2.1]; rfl
        · rw [e4, h.2.1, h.2.2.2]; rfl
      · intro h
        have hP : BookP a := by
          unfold bookB at h
          exact @of_decide_eq_true _ (Classical.propDecidable _) h
        have h3 := hP.2.2.1
        have h4 := hP.2.2.2
        rw [e3, Bool.and_eq_true] at h3
        rw [e4, Bool.and_eq_true] at h4
        rw [h3.1, h3.2, h4.1, h4.2]
        rfl

end Go.Proofs.YthleodbbppgadaaGreat
