/-
  A book of claims that is ok by the program's six tests, and by the model's: the same. Plain lists.
-/
import Derived.Test.YticojnepejboaacGreatCpj
import Derived.Test.YticojnepejboaacGreatCl
namespace Go.Proofs.YticojnepejboaacGreat
open Go.RowKit

theorem bool_ext {a b : Bool} (h : a = true ↔ b = true) : a = b := Bool.eq_iff_iff.2 h
theorem less_decC : ∀ x y : List UInt8, Op.bytesLess x y = decide (x < y)
  | [], [] => by simp [Op.bytesLess]
  | _ :: _, [] => by simp [Op.bytesLess]
  | [], _ :: _ => by simp [Op.bytesLess]
  | a :: x, b :: y => by
    have ih := less_decC x y
    unfold Op.bytesLess
    rw [ih]
    by_cases h1 : a < b <;> by_cases h2 : a = b <;> by_cases h3 : x < y <;> simp [List.cons_lt_cons_iff, h1, h2, h3]
theorem ltC_irrefl (a : ByteArray) : ltB a a = false := by
  cases h : ltB a a
  · rfl
  · simp only [ltB, less_decC, decide_eq_true_eq] at h; exact absurd h (List.lt_irrefl _)
theorem has_iff {l : List ByteArray} {x : ByteArray} : hasB l x = true ↔ x ∈ l := by
  unfold hasB
  rw [List.any_eq_true]
  constructor
  · rintro ⟨y, hy, h⟩
    rw [eqB_iff] at h
    exact h ▸ hy
  · intro h
    exact ⟨x, h, (eqB_iff _ _).2 rfl⟩
theorem share_iff {a b : List ByteArray} : shareB a b = true ↔ ∃ x, x ∈ a ∧ x ∈ b := by
  unfold shareB
  rw [List.any_eq_true]
  constructor
  · rintro ⟨y, hy, h⟩; exact ⟨y, hy, has_iff.1 h⟩
  · rintro ⟨y, hy, h⟩; exact ⟨y, hy, has_iff.2 h⟩
theorem share_comm (a b : List ByteArray) : shareB a b = shareB b a := by
  apply bool_ext
  rw [share_iff, share_iff]
  exact ⟨fun ⟨x, h1, h2⟩ => ⟨x, h2, h1⟩, fun ⟨x, h1, h2⟩ => ⟨x, h2, h1⟩⟩
theorem ok_same {α : Type} {lim : Nat} {T T' : Option α → α → Bool} {l : List α} (h : ∀ i (hi : i < l.length), T (prevO l i) l[i] = T' (prevO l i) l[i]) : okB lim T l = okB lim T' l := by
  apply bool_ext
  rw [ok_iff, ok_iff]
  constructor
  · rintro ⟨h0, h1⟩; exact ⟨h0, fun i hi => by rw [← h i hi]; exact h1 i hi⟩
  · rintro ⟨h0, h1⟩; exact ⟨h0, fun i hi => by rw [h i hi]; exact h1 i hi⟩

theorem foes_same (foes : List DClaimFoe) : foesI foes = okB 12 foeTC foes := by
  refine ok_same fun i hi => ?_
  generalize prevO foes i = o
  generalize foes[i] = f
  cases o with
  | none => show ((nameB f.1 && nameB f.2 && ltB f.1 f.2) && true) = _; rw [Bool.and_true]; rfl
  | some p =>
    have hb : befB p f = cond (eqB p.1 f.1) (ltB p.2 f.2) (ltB p.1 f.1) := by
      unfold befB
      cases h : eqB p.1 f.1
      · simp
      · rw [(eqB_iff _ _).1 h, ltC_irrefl]; simp
    show ((nameB f.1 && nameB f.2 && ltB f.1 f.2) && befB p f) = _
    rw [hb]; rfl
theorem foes_lt {foes : List DClaimFoe} (hf : okB 12 foeTC foes = true) {f : DClaimFoe} (h : f ∈ foes) : ltB f.1 f.2 = true := by
  obtain ⟨i, hi, rfl⟩ := List.getElem_of_mem h
  have := (ok_iff.1 hf).2 i hi
  generalize prevO foes i = o at this
  cases o <;> simp only [foeTC, Bool.and_eq_true] at this
  · exact this.2
  · exact this.1.2
theorem foeC_irr {foes : List DClaimFoe} (hf : okB 12 foeTC foes = true) (x : ByteArray) : foeC foes x x = false := by
  unfold foeC
  rw [List.any_eq_false]
  intro f hm h
  have hl := foes_lt hf hm
  rw [Bool.or_self, Bool.and_eq_true, eqB_iff, eqB_iff] at h
  rw [h.1, h.2, ltC_irrefl] at hl
  cases hl
theorem foeC_symm (foes : List DClaimFoe) (x y : ByteArray) : foeC foes x y = foeC foes y x := by
  unfold foeC
  congr 1
  funext f
  exact Bool.or_comm _ _
theorem pair_same {foes : List DClaimFoe} (hf : okB 12 foeTC foes = true) (may : List ByteArray) : (!pairB (fun x y => decide (0 < cntF (nthF foes) foes.length x y)) may) = may.all (peaceB foes may) := by
  rw [show (fun x y => decide (0 < cntF (nthF foes) foes.length x y)) = fun x y => foeC foes x y from funext fun x => funext fun y => cnt_foe foes x y]
  apply bool_ext
  rw [Bool.not_eq_true', List.all_eq_true]
  constructor
  · intro h x hx
    show (!clashC foes x may) = true
    rw [Bool.not_eq_true', ← Bool.not_eq_true]
    intro hc
    obtain ⟨y, hy, hxy⟩ := List.any_eq_true.1 hc
    obtain ⟨i, hi, rfl⟩ := List.getElem_of_mem hx
    obtain ⟨j, hj, rfl⟩ := List.getElem_of_mem hy
    rcases Nat.lt_trichotomy i j with h1 | h1 | h1
    · rw [pair_yes (R := fun x y => foeC foes x y) h1 hj hxy] at h; cases h
    · subst h1; rw [foeC_irr hf] at hxy; cases hxy
    · rw [foeC_symm] at hxy; rw [pair_yes (R := fun x y => foeC foes x y) h1 hi hxy] at h; cases h
  · intro h
    refine pair_no (fun i j hij hj => ?_)
    have h1 : (!clashC foes (may[i]'(by omega)) may) = true := h _ (List.getElem_mem _)
    rw [Bool.not_eq_true'] at h1
    have := List.any_eq_false.1 h1 may[j] (List.getElem_mem _)
    simpa using this
theorem with_same (cap least most : Int) : withB cap least most = (inB cap 0 1000 && (inB least 0 most && !decide (cap < most))) := by
  apply bool_ext
  simp only [withB, inB, Bool.and_eq_true, decide_eq_true_eq, Bool.not_eq_true', decide_eq_false_iff_not]
  omega
theorem spot_same {foes : List DClaimFoe} (hf : okB 12 foeTC foes = true) (s : DClaimSpot) : spI (cntF (nthF foes) foes.length) s.1 s.2.1 s.2.2.1 s.2.2.2.1 s.2.2.2.2 = spotB foes s := by
  unfold spI spotB
  rw [pair_same hf, with_same]
  simp only [Bool.and_assoc]
theorem spots_same {foes : List DClaimFoe} (hf : okB 12 foeTC foes = true) (sp : List DClaimSpot) : spotsI foes sp = okB 8 (spotT foes) sp := by
  refine ok_same fun i hi => ?_
  generalize prevO sp i = o
  generalize sp[i] = s
  cases o with
  | none =>
    show (spI (cntF (nthF foes) foes.length) s.1 s.2.1 s.2.2.1 s.2.2.2.1 s.2.2.2.2 && true) = spotB foes s
    rw [Bool.and_true, spot_same hf]
  | some p =>
    show (spI (cntF (nthF foes) foes.length) s.1 s.2.1 s.2.2.1 s.2.2.2.1 s.2.2.2.2 && ltB p.1 s.1) = (spotB foes s && ltB p.1 s.1)
    rw [spot_same hf]
theorem valves_same (va : List ByteArray) (seen : Int) : valvesI va seen = (okB 12 (tst nameB ltB) va && inB seen 0 1000000) := by
  unfold valvesI
  congr 1
  apply bool_ext
  simp only [inB, Bool.and_eq_true, decide_eq_true_eq]

/-- What is asked of a want that is ok. -/
theorem want_kind {a : DClaimWant} (h : wantB a = true) : a.2.1 = 1 ∨ a.2.1 = 2 ∨ a.2.1 = 3 := by
  simp only [wantB, Bool.and_eq_true, inB, decide_eq_true_eq] at h
  omega
theorem want_use {a : DClaimWant} (h : wantB a = true) {u : DClaimUse} (hu : u ∈ a.2.2.2.1) : nameB u.1 = true ∧ (u.2.1 = 1 ∨ u.2.1 = 2 ∨ u.2.1 = 3) ∧ 0 ≤ u.2.2 ∧ u.2.2 ≤ 1000 := by
  obtain ⟨k, hk, rfl⟩ := List.getElem_of_mem hu
  have ha := want_amount h k hk
  simp only [wantB, Bool.and_eq_true] at h
  have h1 := (ok_iff.1 h.1.1.1.1.1.1.1.2).2 k hk
  simp only [tst, Bool.and_eq_true, useP, inB, decide_eq_true_eq] at h1
  exact ⟨h1.1.1.1, by omega, ha⟩
theorem want_open {a : DClaimWant} (h : wantB a = true) {x : ByteArray} (hx : x ∈ a.2.2.2.2.1) : nameB x = true := by
  obtain ⟨k, hk, rfl⟩ := List.getElem_of_mem hx
  simp only [wantB, Bool.and_eq_true] at h
  have h1 := (ok_iff.1 h.1.1.1.1.1.1.2).2 k hk
  simp only [tst, Bool.and_eq_true] at h1
  exact h1.1
theorem want_lens {a : DClaimWant} (h : wantB a = true) : a.2.2.2.1.length ≤ 8 ∧ a.2.2.2.2.1.length ≤ 12 := by
  simp only [wantB, Bool.and_eq_true] at h
  exact ⟨(ok_iff.1 h.1.1.1.1.1.1.1.2).1, (ok_iff.1 h.1.1.1.1.1.1.2).1⟩
theorem name_ne {x : ByteArray} (h : nameB x = true) : x ≠ noT := by
  rintro rfl
  revert h
  decide

theorem put_pos {M : ByteArray → ByteArray → Int} (hM : ∀ p q, 0 ≤ M p q) (x y p q : ByteArray) : 0 < putN M x y (M x y + 1) p q ↔ 0 < M p q ∨ (p = x ∧ q = y) := by
  unfold putN
  by_cases h : p = x ∧ q = y
  · rw [if_pos h]
    have := hM x y
    constructor
    · intro _; exact Or.inr h
    · intro _; omega
  · rw [if_neg h]
    constructor
    · exact Or.inl
    · rintro (h' | h')
      · exact h'
      · exact absurd h' h
theorem put_nn {M : ByteArray → ByteArray → Int} (hM : ∀ p q, 0 ≤ M p q) (x y : ByteArray) : ∀ p q, 0 ≤ putN M x y (M x y + 1) p q := fun p q => by
  have h1 := hM x y
  have h2 := hM p q
  unfold putN
  split <;> omega
theorem addU_pos (p q : ByteArray) : ∀ (us : List DClaimUse) (M : ByteArray → ByteArray → Int), (∀ p q, 0 ≤ M p q) → ((0 < addU M us p q ↔ 0 < M p q ∨ (q = noT ∧ ∃ u ∈ us, u.1 = p)) ∧ ∀ p q, 0 ≤ addU M us p q)
  | [], M, hM => ⟨by simp [addU], hM⟩
  | u :: us, M, hM => by
    obtain ⟨h1, h2⟩ := addU_pos p q us _ (put_nn hM u.1 noT)
    refine ⟨?_, h2⟩
    show 0 < addU (putN M u.1 noT (M u.1 noT + 1)) us p q ↔ _
    rw [h1, put_pos hM]
    constructor
    · rintro ((h | ⟨rfl, rfl⟩) | ⟨rfl, v, hv, rfl⟩)
      · exact Or.inl h
      · exact Or.inr ⟨rfl, u, List.mem_cons_self, rfl⟩
      · exact Or.inr ⟨rfl, v, List.mem_cons_of_mem _ hv, rfl⟩
    · rintro (h | ⟨rfl, v, hv, rfl⟩)
      · exact Or.inl (Or.inl h)
      · rcases List.mem_cons.1 hv with rfl | hv
        · exact Or.inl (Or.inr ⟨rfl, rfl⟩)
        · exact Or.inr ⟨rfl, v, hv, rfl⟩
theorem addV_pos (p q : ByteArray) : ∀ (os : List ByteArray) (M : ByteArray → ByteArray → Int), (∀ p q, 0 ≤ M p q) → ((0 < addV M os p q ↔ 0 < M p q ∨ (p = noT ∧ q ∈ os)) ∧ ∀ p q, 0 ≤ addV M os p q)
  | [], M, hM => ⟨by simp [addV], hM⟩
  | v :: os, M, hM => by
    obtain ⟨h1, h2⟩ := addV_pos p q os _ (put_nn hM noT v)
    refine ⟨?_, h2⟩
    show 0 < addV (putN M noT v (M noT v + 1)) os p q ↔ _
    rw [h1, put_pos hM]
    constructor
    · rintro ((h | ⟨rfl, rfl⟩) | ⟨rfl, hv⟩)
      · exact Or.inl h
      · exact Or.inr ⟨rfl, List.mem_cons_self⟩
      · exact Or.inr ⟨rfl, List.mem_cons_of_mem _ hv⟩
    · rintro (h | ⟨rfl, hv⟩)
      · exact Or.inl (Or.inl h)
      · rcases List.mem_cons.1 hv with rfl | hv
        · exact Or.inl (Or.inr ⟨rfl, rfl⟩)
        · exact Or.inr ⟨rfl, hv⟩
theorem cntW_pos0 (p q : ByteArray) : ∀ (ps : List DClaimPart) (M : ByteArray → ByteArray → Int), (∀ p q, 0 ≤ M p q) → (0 < ps.foldl (fun M p => addV (addU M p.2.2.2.1) p.2.2.2.2.1) M p q ↔ 0 < M p q ∨ ∃ a ∈ ps, (q = noT ∧ ∃ u ∈ a.2.2.2.1, u.1 = p) ∨ (p = noT ∧ q ∈ a.2.2.2.2.1))
  | [], M, _ => by simp
  | a :: ps, M, hM => by
    obtain ⟨h1, h2⟩ := addU_pos p q a.2.2.2.1 M hM
    obtain ⟨h3, h4⟩ := addV_pos p q a.2.2.2.2.1 _ h2
    have ih := cntW_pos0 p q ps _ h4
    rw [List.foldl_cons, ih, h3, h1]
    constructor
    · rintro (((h | h) | h) | ⟨b, hb, h⟩)
      · exact Or.inl h
      · exact Or.inr ⟨a, List.mem_cons_self, Or.inl h⟩
      · exact Or.inr ⟨a, List.mem_cons_self, Or.inr h⟩
      · exact Or.inr ⟨b, List.mem_cons_of_mem _ hb, h⟩
    · rintro (h | ⟨b, hb, h⟩)
      · exact Or.inl (Or.inl (Or.inl h))
      · rcases List.mem_cons.1 hb with rfl | hb
        · rcases h with h | h
          · exact Or.inl (Or.inl (Or.inr h))
          · exact Or.inl (Or.inr h)
        · exact Or.inr ⟨b, hb, h⟩
theorem cntW_pos (ps : List DClaimPart) (p q : ByteArray) : 0 < cntW ps p q ↔ ∃ a ∈ ps, (q = noT ∧ ∃ u ∈ a.2.2.2.1, u.1 = p) ∨ (p = noT ∧ q ∈ a.2.2.2.2.1) := by
  unfold cntW
  rw [cntW_pos0 p q ps _ (fun _ _ => Int.le_refl _)]
  simp

theorem use_mem {us : List DClaimUse} {x : ByteArray} : x ∈ usN us ↔ ∃ u ∈ us, u.1 = x := by
  unfold usN
  exact List.mem_map
theorem clear_iff (l : List DClaimPart) (a : DClaimPart) (ha : wantB (wantOf a) = true) : clearB (cntW l) a = true ↔ ∀ b ∈ l, shareB (usN a.2.2.2.1) (usN b.2.2.2.1) = false ∧ shareB a.2.2.2.2.1 b.2.2.2.2.1 = false := by
  unfold clearB
  rw [Bool.not_eq_true', Bool.or_eq_false_iff, List.any_eq_false, List.any_eq_false]
  constructor
  · rintro ⟨h1, h2⟩ b hb
    constructor
    · rw [← Bool.not_eq_true]
      intro h
      obtain ⟨x, hx, hy⟩ := share_iff.1 h
      obtain ⟨u, hu, rfl⟩ := use_mem.1 hx
      have := h1 u hu
      rw [decide_eq_true_eq, cntW_pos] at this
      exact this ⟨b, hb, Or.inl ⟨rfl, use_mem.1 hy⟩⟩
    · rw [← Bool.not_eq_true]
      intro h
      obtain ⟨x, hx, hy⟩ := share_iff.1 h
      have := h2 x hx
      rw [decide_eq_true_eq, cntW_pos] at this
      exact this ⟨b, hb, Or.inr ⟨rfl, hy⟩⟩
  · intro h
    constructor
    · intro u hu
      rw [decide_eq_true_eq, cntW_pos]
      rintro ⟨b, hb, ⟨_, hv⟩ | ⟨he, _⟩⟩
      · have := (h b hb).1
        rw [share_iff.2 ⟨u.1, use_mem.2 ⟨u, hu, rfl⟩, use_mem.2 hv⟩] at this
        cases this
      · exact name_ne (want_use ha hu).1 he
    · intro x hx
      rw [decide_eq_true_eq, cntW_pos]
      rintro ⟨b, hb, ⟨he, _⟩ | ⟨_, hv⟩⟩
      · exact name_ne (want_open ha hx) he
      · have := (h b hb).2
        rw [share_iff.2 ⟨x, hx, hv⟩] at this
        cases this
theorem meet_iff (a b : DClaimPart) : meetB a b = false ↔ (shareB (usN a.2.2.2.1) (usN b.2.2.2.1) = false ∧ shareB a.2.2.2.2.1 b.2.2.2.2.1 = false) ∧ shutB b.2.2.2.2.1 b.2.2.2.2.2.1 a.2.2.2.2.1 a.2.2.2.2.2.1 = false := by
  unfold meetB crossB shutB
  rw [share_comm a.2.2.2.2.2.1 b.2.2.2.2.1]
  simp only [Bool.or_eq_false_iff]
  constructor
  · rintro ⟨h1, ⟨h2, h3⟩, h4⟩; exact ⟨⟨h1, h2⟩, h4, h3⟩
  · rintro ⟨⟨h1, h2⟩, h4, h3⟩; exact ⟨h1, ⟨h2, h3⟩, h4⟩
theorem apart_iff (ps : List DClaimPart) (hw : ∀ p ∈ ps, wantB (wantOf p) = true) : apartI ps = true ↔ ∀ i (hi : i < ps.length) j (hj : j < i), meetB ps[i] (ps[j]'(by omega)) = false := by
  unfold apartI
  rw [Bool.and_eq_true, @decide_eq_true_iff _ (Classical.propDecidable _), Bool.not_eq_true']
  constructor
  · rintro ⟨h1, h2⟩ i hi j hj
    rw [meet_iff]
    refine ⟨(clear_iff _ _ (hw _ (List.getElem_mem _))).1 (h1 i hi) _ (List.mem_take_iff_getElem.2 ⟨j, by omega, rfl⟩), ?_⟩
    rw [← Bool.not_eq_true]
    intro h
    rw [pair_yes (R := fun a b : DClaimPart => shutB a.2.2.2.2.1 a.2.2.2.2.2.1 b.2.2.2.2.1 b.2.2.2.2.2.1) hj hi h] at h2
    cases h2
  · intro h
    constructor
    · intro k hk
      rw [clear_iff _ _ (hw _ (List.getElem_mem _))]
      intro b hb
      obtain ⟨j, hj, rfl⟩ := List.mem_take_iff_getElem.1 hb
      exact ((meet_iff _ _).1 (h k hk j (by omega))).1
    · exact pair_no (fun i j hij hj => ((meet_iff _ _).1 (h j hj i hij)).2)

theorem fit_same {least most kind role amount : Int} {may ss : List ByteArray} (hk : kind = 1 ∨ kind = 2 ∨ kind = 3) (hr : role = 1 ∨ role = 2 ∨ role = 3) (hm : 0 ≤ most) : fitI least most may kind ss role amount = fitB least most may kind ss role amount := by
  have h1 : (!decide (most < least + amount)) = decide (least + amount ≤ most) := by
    apply bool_ext
    simp only [Bool.not_eq_true', decide_eq_false_iff_not, decide_eq_true_eq]
    omega
  have h2 : decide (most = 0) = !decide (0 < most) := by
    apply bool_ext
    simp only [Bool.not_eq_true', decide_eq_false_iff_not, decide_eq_true_eq]
    omega
  unfold fitI fitB leftB
  rw [h1, h2]
  generalize decide (least + amount ≤ most) = d
  generalize decide (0 < most) = e
  generalize allC' may ss = x
  generalize allC' ss may = y
  rcases hk with rfl | rfl | rfl <;> rcases hr with rfl | rfl | rfl <;> cases d <;> cases e <;> cases x <;> cases y <;> rfl
theorem fitV_same {foes : List DClaimFoe} {sp : List DClaimSpot} (hs : okB 8 (spotT foes) sp = true) {kind : Int} {ss : List ByteArray} {u : DClaimUse} (hk : kind = 1 ∨ kind = 2 ∨ kind = 3) (hr : u.2.1 = 1 ∨ u.2.1 = 2 ∨ u.2.1 = 3) : fitV sp kind ss u = fitU sp kind ss u := by
  unfold fitV fitU
  cases h : sp[(idxI sp (fun p : DClaimSpot => eqB p.1 u.1)).toNat]? with
  | none => rfl
  | some s =>
    obtain ⟨hi, he⟩ := List.getElem?_eq_some_iff.1 h
    have hb := spotT_B ((ok_iff.1 hs).2 _ hi)
    rw [he] at hb
    simp only [spotB, Bool.and_eq_true, inB, decide_eq_true_eq] at hb
    exact fit_same hk hr (by omega)

theorem parts_want {sp : List DClaimSpot} {va : List ByteArray} {seen : Int} {ps : List DClaimPart} (h : partsI sp va seen ps = true) {p : DClaimPart} (hp : p ∈ ps) : wantB (wantOf p) = true ∧ p.1 ≤ seen ∧ knowB sp va p.2.2.2.1 p.2.2.2.2.1 p.2.2.2.2.2.1 = true := by
  obtain ⟨i, hi, rfl⟩ := List.getElem_of_mem hp
  have h1 := (ok_iff.1 h).2 i hi
  have h2 : (paI sp va seen (wantOf ps[i]) && asO (fun p f : DClaimPart => decide (p.1 < f.1)) (prevO ps i) ps[i]) = true := h1
  rw [Bool.and_eq_true] at h2
  have h3 := h2.1
  unfold paI at h3
  rw [Bool.and_eq_true, Bool.and_eq_true, decide_eq_true_eq, want_same] at h3
  exact ⟨h3.2.1, h3.1, h3.2.2⟩
theorem behind_same (ps : List DClaimPart) (i : Nat) (f : DClaimPart) : asO (fun p f : DClaimPart => decide (p.1 < f.1)) (prevO ps i) f = behindB (prevO ps i) f := by
  generalize prevO ps i = o
  cases o with
  | none => rfl
  | some g =>
    show decide (g.1 < f.1) = !decide (f.1 ≤ g.1)
    apply bool_ext
    simp only [Bool.not_eq_true', decide_eq_false_iff_not, decide_eq_true_eq]
    omega
theorem rest_same {foes : List DClaimFoe} {sp : List DClaimSpot} (hs : okB 8 (spotT foes) sp = true) (va : List ByteArray) (seen : Int) (ps : List DClaimPart) : (partsI sp va seen ps && (apartI ps && placesI sp ps)) = partsB sp va seen ps := by
  apply bool_ext
  rw [Bool.and_eq_true, Bool.and_eq_true]
  constructor
  · rintro ⟨hp, ha, hq⟩
    have hw : ∀ p ∈ ps, wantB (wantOf p) = true := fun p h => (parts_want hp h).1
    have ha := (apart_iff ps hw).1 ha
    have h0 := ok_iff.1 hp
    refine @decide_eq_true _ (Classical.propDecidable _) ⟨h0.1, fun i hi => ?_⟩
    obtain ⟨w1, w2, w3⟩ := parts_want hp (List.getElem_mem hi)
    unfold placeB partB
    rw [Bool.and_eq_true, Bool.and_eq_true, Bool.and_eq_true, Bool.and_eq_true, Bool.and_eq_true]
    refine ⟨⟨w1, ?_, w3, ?_⟩, ?_, ?_⟩
    · show (!decide (seen < ps[i].1)) = true
      simp; omega
    · have h1 := List.all_eq_true.1 (List.all_eq_true.1 hq _ (List.getElem_mem hi))
      refine List.all_eq_true.2 (fun u hu => ?_)
      have h2 := h1 u hu
      rw [fitV_same (kind := ps[i].2.1) (ss := ps[i].2.2.1) hs (want_kind w1) (want_use w1 hu).2.1] at h2
      exact h2
    · have h2 : (paI sp va seen (wantOf ps[i]) && asO (fun p f : DClaimPart => decide (p.1 < f.1)) (prevO ps i) ps[i]) = true := h0.2 i hi
      rw [Bool.and_eq_true, behind_same] at h2
      exact h2.2
    · refine List.all_eq_true.2 (fun o ho => ?_)
      obtain ⟨j, hj, rfl⟩ := List.mem_take_iff_getElem.1 ho
      rw [ha i hi j (by omega)]; rfl
  · intro h
    obtain ⟨hl, h⟩ := @of_decide_eq_true _ (Classical.propDecidable _) h
    have hpl : ∀ i (hi : i < ps.length), (wantB (wantOf ps[i]) = true ∧ ps[i].1 ≤ seen ∧ knowB sp va ps[i].2.2.2.1 ps[i].2.2.2.2.1 ps[i].2.2.2.2.2.1 = true ∧ ps[i].2.2.2.1.all (fitU sp ps[i].2.1 ps[i].2.2.1) = true) ∧ behindB (prevO ps i) ps[i] = true ∧ (ps.take i).all (fun o => !meetB ps[i] o) = true := fun i hi => by
      have h1 := h i hi
      unfold placeB partB at h1
      rw [Bool.and_eq_true, Bool.and_eq_true, Bool.and_eq_true, Bool.and_eq_true, Bool.and_eq_true] at h1
      obtain ⟨⟨g1, g2, g3, g4⟩, g5, g6⟩ := h1
      have g2' : (!decide (seen < ps[i].1)) = true := g2
      simp at g2'
      exact ⟨⟨g1, g2', g3, g4⟩, g5, g6⟩
    refine ⟨?_, ?_, ?_⟩
    · refine ok_yes hl (fun i hi => ?_)
      obtain ⟨⟨g1, g2, g3, _⟩, g5, _⟩ := hpl i hi
      show (paI sp va seen (wantOf ps[i]) && asO (fun p f : DClaimPart => decide (p.1 < f.1)) (prevO ps i) ps[i]) = true
      rw [Bool.and_eq_true, behind_same]
      refine ⟨?_, g5⟩
      unfold paI
      rw [Bool.and_eq_true, Bool.and_eq_true, decide_eq_true_eq, want_same]
      exact ⟨g2, g1, g3⟩
    · refine (apart_iff ps (fun p hp => ?_)).2 (fun i hi j hj => ?_)
      · obtain ⟨i, hi, rfl⟩ := List.getElem_of_mem hp
        exact (hpl i hi).1.1
      · have h1 := List.all_eq_true.1 (hpl i hi).2.2 (ps[j]'(by omega)) (List.mem_take_iff_getElem.2 ⟨j, by omega, rfl⟩)
        simpa using h1
    · refine List.all_eq_true.2 (fun p hp => List.all_eq_true.2 (fun u hu => ?_))
      obtain ⟨i, hi, rfl⟩ := List.getElem_of_mem hp
      obtain ⟨⟨g1, _, _, g4⟩, _, _⟩ := hpl i hi
      have h1 := List.all_eq_true.1 g4 u hu
      rw [fitV_same (kind := ps[i].2.1) (ss := ps[i].2.2.1) hs (want_kind g1) (want_use g1 hu).2.1]
      exact h1

/-- Test k of a book. -/
noncomputable def tstC (foes : List DClaimFoe) (sp : List DClaimSpot) (va : List ByteArray) (ps : List DClaimPart) (seen : Int) : Nat → Bool
  | 0 => foesI foes
  | 1 => spotsI foes sp
  | 2 => valvesI va seen
  | 3 => partsI sp va seen ps
  | 4 => apartI ps
  | 5 => placesI sp ps
  | _ => true
theorem book_tst (foes : List DClaimFoe) (sp : List DClaimSpot) (va : List ByteArray) (ps : List DClaimPart) (seen : Int) : bookS foes sp va ps seen = (foesI foes && (spotsI foes sp && (valvesI va seen && (partsI sp va seen ps && (apartI ps && placesI sp ps))))) := by
  unfold bookS
  rw [foes_same, valves_same]
  cases hf : okB 12 foeTC foes
  · rfl
  · rw [spots_same hf]
    cases hs : okB 8 (spotT foes) sp
    · simp
    · rw [rest_same hs]
      cases okB 12 (tst nameB ltB) va <;> cases inB seen 0 1000000 <;> rfl
theorem book_yes {foes : List DClaimFoe} {sp : List DClaimSpot} {va : List ByteArray} {ps : List DClaimPart} {seen : Int} (h : ∀ j, j < 6 → tstC foes sp va ps seen j = true) : bookS foes sp va ps seen = true := by
  rw [book_tst, show foesI foes = true from h 0 (by omega), show spotsI foes sp = true from h 1 (by omega), show valvesI va seen = true from h 2 (by omega), show partsI sp va seen ps = true from h 3 (by omega), show apartI ps = true from h 4 (by omega), show placesI sp ps = true from h 5 (by omega)]
  rfl
theorem book_no {foes : List DClaimFoe} {sp : List DClaimSpot} {va : List ByteArray} {ps : List DClaimPart} {seen : Int} (k : Nat) (hk : k < 6) (h : tstC foes sp va ps seen k = false) : bookS foes sp va ps seen = false := by
  rw [book_tst]
  rcases (show k = 0 ∨ k = 1 ∨ k = 2 ∨ k = 3 ∨ k = 4 ∨ k = 5 by omega) with rfl | rfl | rfl | rfl | rfl | rfl <;> simp only [tstC] at h <;> rw [h] <;> simp only [Bool.false_and, Bool.and_false]

end Go.Proofs.YticojnepejboaacGreat
